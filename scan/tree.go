package scan

import (
	"math/bits"
	"slices"

	"sheafworks/api"
)

// deepest is how many levels a list of VecMost words has.
const deepest = 21

// tree is the levels of a list; behind the last one it has lists of none.
type tree [deepest][]int

// treeOf returns the levels of a list of words.
func (o operation) treeOf(l []int) *tree {
	size := 1
	for size < len(l) {
		size *= 2
	}
	behind := slices.Repeat([]int{o.neutral}, size-len(l))
	t := &tree{slices.Concat(l, behind)}
climbing:
	for i := range deepest {
		for pair := range slices.Chunk(t[i], 2) {
			if len(pair) == 1 {
				break climbing // this level is the last one
			}
			t[i+1] = append(t[i+1], o.join(pair[0], pair[1]))
		}
	}
	return t
}

// lists returns the levels that are there.
func (t *tree) lists() [][]int {
	many := bits.Len(uint(len(t[0])))
	return t[:many:many]
}

// areLevels reports whether these are the levels of some list of words.
func (o operation) areLevels(lists [][]int) bool {
	if len(lists) == 0 || check(lists[0]) != api.OK {
		return false
	}
	// The levels of a list are those of its first level, too: this has its neutral words already.
	return slices.EqualFunc(lists, o.treeOf(lists[0]).lists(), slices.Equal)
}

// down goes down the levels, and returns what stands at the first one.
func (o operation) down(lists [][]int) []int {
	stands := []int{o.neutral}
	for _, level := range slices.Backward(lists[:len(lists)-1]) {
		below := make([]int, 0, len(level))
		for i, n := range stands {
			below = append(below, n, o.join(n, level[2*i]))
		}
		stands = below
	}
	return stands
}

// allLeft returns levels that count which of so many places are left: all of them.
func allLeft(many int) *tree {
	count := operation{0, func(a, b int) int { return a + b }}
	return count.treeOf(slices.Repeat([]int{1}, many))
}

// place returns which place is the k-th one, from 0 on, of those that are left.
func (t *tree) place(k int) int {
	place := 0
	lists := t.lists()
	for _, level := range slices.Backward(lists[:len(lists)-1]) {
		place *= 2
		if k >= level[place] {
			k -= level[place]
			place++
		}
	}
	return place
}

// takeOut counts a place no more.
func (t *tree) takeOut(place int) {
	for _, level := range t.lists() {
		level[place]--
		place /= 2
	}
}
