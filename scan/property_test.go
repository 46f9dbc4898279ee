package scan_test

import (
	"math"
	"math/rand"
	"reflect"
	"slices"
	"sync"
	"testing"

	"sheafworks/api"
)

// lists returns the lists of a call, which must not be refused.
func (c call) lists(t *testing.T) [][]int {
	t.Helper()
	a := c.do()
	if a.err != api.OK {
		t.Fatalf("%s: error %d", c, a.err)
	}
	return a.lists
}

// first returns the first list of a call.
func (c call) first(t *testing.T) []int {
	t.Helper()
	return c.lists(t)[0]
}

// whole returns the fold, the scan and the scan through of a list as one segment.
func whole(t *testing.T, op int, l []int) (fold int, scanned, through []int) {
	t.Helper()
	c := call{op: op, l: l, by: list(len(l))}
	c.name = "Fold"
	fold = c.first(t)[0]
	c.name = "Scan"
	scanned = c.first(t)
	c.name = "Through"
	return fold, scanned, c.first(t)
}

// rounds calls do often, for all operations, with random lists that are the same each time.
func rounds(do func(r *rand.Rand, op int, l []int)) {
	r := rand.New(rand.NewSource(3))
	for range 200 {
		l := scattered(r, r.Intn(50))
		for _, op := range associative {
			do(r, op, l)
		}
	}
}

// P5.8
func TestOneForAll(t *testing.T) {
	rounds(func(r *rand.Rand, op int, l []int) {
		fold, scanned, _ := whole(t, op, l)
		for range 3 {
			if len(l) > 0 {
				call{name: "Tree", op: op, l: l, by: shapeOf(r, len(l))}.want(t, ofWord(fold))
			}
		}
		for _, n := range list(1, 2, 3, 7, 1+r.Intn(60), most) {
			both := call{name: "Blocks", op: op, l: l, n: n}.lists(t)
			if sums, _, _ := whole(t, op, both[0]); sums != fold || !slices.Equal(both[1], scanned) {
				t.Errorf("Blocks %d, %s, %d: %s", op, short(l), n, shorts(both))
			}
		}
		levels := call{name: "Levels", op: op, l: l}.lists(t)
		if last := levels[len(levels)-1]; !slices.Equal(last, list(fold)) {
			t.Errorf("Levels %d, %s: %s; want at last %d", op, short(l), shorts(levels), fold)
		}
		call{name: "Down", op: op, levels: levels, n: len(l)}.want(t, got(scanned))
	})
}

// P5.9
func TestJoinedWords(t *testing.T) {
	rounds(func(r *rand.Rand, op int, l []int) {
		other := scattered(r, r.Intn(50))
		fold, scanned, through := whole(t, op, l)
		behind, _, _ := whole(t, op, other)
		if both, _, _ := whole(t, op, slices.Concat(l, other)); both != do(op, fold, behind) {
			t.Errorf("Fold %d, of %s and %s: %d; the folds joined are %d", op, short(l), short(other), both, do(op, fold, behind))
		}
		for i, n := range l {
			if through[i] != do(op, scanned[i], n) {
				t.Errorf("Through %d, %s: %s; Scan: %s", op, short(l), short(through), short(scanned))
			}
		}
	})
}

// P5.10
func TestFlagsAreAssociative(t *testing.T) {
	var all []flagged
	for _, n := range list(0, 1, -1, 5, -7, low, high, 65536) {
		all = append(all, plain(n), begins(n))
	}
	join := func(op int, x, y flagged) flagged {
		return call{name: "Join", op: op, flags: []flagged{x, y}}.do().flags[0]
	}
	for _, op := range associative {
		for _, x := range all {
			for _, y := range all {
				for _, z := range all {
					left, right := join(op, join(op, x, y), z), join(op, x, join(op, y, z))
					if left != right {
						t.Errorf("Join %d: %v, and %v", op, left, right)
					}
				}
			}
		}
	}
}

// P5.10
func TestFlaggedSegments(t *testing.T) {
	rounds(func(r *rand.Rand, op int, l []int) {
		lens := lengthsOf(r, len(l))
		var flags []flagged
		for _, part := range cut(l, lens) {
			for i, n := range part {
				flags = append(flags, flagged{Flag: i == 0, N: n})
			}
		}
		var words []int
		for _, x := range (call{name: "Flagged", op: op, flags: flags}).do().flags {
			words = append(words, x.N)
		}
		call{name: "Through", op: op, l: l, by: lens}.want(t, got(words))
	})
}

// P5.11
func TestLastLevel(t *testing.T) {
	rounds(func(r *rand.Rand, op int, l []int) {
		levels := call{name: "Levels", op: op, l: l}.lists(t)
		fold, _, _ := whole(t, op, l)
		if last := levels[len(levels)-1]; !slices.Equal(last, list(fold)) {
			t.Errorf("Levels %d, %s: at last %s; the fold is %d", op, short(l), short(last), fold)
		}
		if many := len(levels[0]); many >= 2*max(1, len(l)) || many != 1<<(len(levels)-1) {
			t.Errorf("Levels %d, %s: %d levels, the first one of %d words", op, short(l), len(levels), many)
		}
	})
}

// names are those of all functions.
func names() []string {
	return []string{"Fold", "Scan", "Through", "Tree", "Blocks", "Levels", "Down", "Join", "Flagged"}
}

// answers calls all functions with two lists and two numbers.
func answers(op, n int, a, b []int) []answer {
	flags := []flagged{plain(n), begins(n)}
	for i, m := range a {
		flags = append(flags, flagged{Flag: i < len(b), N: m})
	}
	var all []answer
	for _, name := range names() {
		all = append(all, call{name: name, op: op, l: a, by: b, n: n, levels: several(a, b), flags: flags}.do())
	}
	return append(all, call{name: "Down", op: op, levels: several(a), n: n}.do())
}

// spoil overwrites what is in an answer, with the room behind it.
func (a answer) spoil() {
	a.flags = a.flags[:cap(a.flags)]
	for i := range a.flags {
		a.flags[i] = begins(-7)
	}
	for _, l := range a.lists {
		overwrite(l[:cap(l)])
	}
	all := a.lists[:cap(a.lists)]
	for i := range all {
		all[i] = list(-7)
	}
}

func overwrite(l []int) {
	for i := range l {
		l[i] = -7
	}
}

// someLists returns lists of all kinds of numbers.
func someLists() [][]int {
	return [][]int{nil, {}, {0}, {1}, {2}, {-1}, {0, 0}, {1, 0}, {1, 1}, {2, 0}, {1, -1}, {2, 0, 1}, {0, 1, 1}, {1, 2, 3, 4}, {5, 4, 3, 2, 1},
		{most}, {most + 1}, {low}, {high}, {high, high}, {low - 1}, {0, high + 1}, {math.MaxInt}, {math.MinInt}, {math.MaxInt, math.MinInt, 2}}
}

// P1 and P13: no call panics, and each is answered the same, whatever was done with the first answers, also at the same time.
func TestAnyArgumentsAgain(t *testing.T) {
	var wait sync.WaitGroup
	all := someLists()
	for _, a := range all {
		wait.Go(func() {
			for _, b := range all {
				for _, n := range list(-1, 0, 1, 2, most, most+1, math.MinInt, math.MaxInt) {
					for _, op := range ops() {
						first, again := answers(op, n, a, b), answers(op, n, a, b)
						for _, x := range first {
							x.spoil()
						}
						if !slices.EqualFunc(again, answers(op, n, a, b), answer.same) {
							t.Errorf("other answers for %d, %d, %s, %s", op, n, short(a), short(b))
						}
					}
				}
			}
		})
	}
	wait.Wait()
	if !reflect.DeepEqual(all, someLists()) {
		t.Errorf("arguments have changed")
	}
}

// fitting returns calls that are answered with words that arguments have too.
func fitting() []call {
	return []call{
		{name: "Fold", l: list(5), by: list(1)}, {name: "Fold", l: list(5, 6), by: list(1, 1)}, {name: "Scan", l: list(0, 0), by: list(2)},
		{name: "Through", l: list(5, 0), by: list(1, 1)}, {name: "Tree", l: list(5), by: nil}, {name: "Tree", l: list(5, 0), by: list(0)},
		{name: "Blocks", l: list(5, 6), n: 1}, {name: "Blocks", l: list(0, 0), n: 2}, {name: "Levels", l: list(5)}, {name: "Levels", l: list(1, 2, 3, 4)},
		{name: "Levels", l: list(1, 2, 3)}, {name: "Down", levels: several(list(0)), n: 1}, {name: "Down", levels: several(list(1, 2), list(3)), n: 2},
		{name: "Join", flags: []flagged{plain(5), begins(6)}}, {name: "Flagged", flags: []flagged{begins(5), plain(0)}}, {name: "Flagged", flags: []flagged{plain(5)}},
	}
}

// withRoom returns a call whose lists have room behind them, with a word in it.
func (c call) withRoom() call {
	room := func(l []int) []int { return append(slices.Clone(l), -9, -9, -9)[:len(l)] }
	c.l, c.by = room(c.l), room(c.by)
	c.flags = append(slices.Clone(c.flags), begins(-9))[:len(c.flags)]
	c.levels = slices.Clone(c.levels)
	for i, l := range c.levels {
		c.levels[i] = room(l)
	}
	return c
}

// hasRoom reports whether the words in the room behind the lists are as they were.
func (c call) hasRoom() bool {
	for _, l := range append(several(c.l, c.by), c.levels...) {
		if !slices.Equal(l[len(l):len(l)+3], list(-9, -9, -9)) {
			return false
		}
	}
	return c.flags[:len(c.flags)+1][len(c.flags)] == begins(-9)
}

// copied returns an answer in memory of its own.
func (a answer) copied() answer {
	a.flags, a.lists = slices.Clone(a.flags), slices.Clone(a.lists)
	for i, l := range a.lists {
		a.lists[i] = slices.Clone(l)
	}
	return a
}

// P5.7: results are other memory than arguments and other results, and neither arguments nor the room behind them change.
func TestResultsAreNewMemory(t *testing.T) {
	for _, plain := range fitting() {
		c := plain.withRoom()
		a := c.do()
		kept := a.copied()
		if a.err != api.OK {
			t.Errorf("%s: error %d", c, a.err)
		}
		for i, l := range a.lists {
			was := slices.Clone(l)
			for k, other := range a.lists {
				if k != i {
					overwrite(other[:cap(other)])
				}
			}
			if !slices.Equal(l, was) {
				t.Errorf("%s: results share memory", c)
			}
		}
		a.spoil()
		if c.String() != plain.String() || !c.hasRoom() {
			t.Errorf("%s has become %s, room %v", plain, c, c.hasRoom())
		}
		again := c.do()
		answer{lists: append(slices.Clone(c.levels), c.l, c.by), flags: c.flags}.spoil()
		if !again.same(kept) {
			t.Errorf("%s: %s, its arguments spoilt %s", plain, kept, again)
		}
	}
}
