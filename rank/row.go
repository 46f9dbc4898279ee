package rank

import (
	"cmp"
	"iter"
	"slices"

	"sheafworks/api"
	"sheafworks/seg"
	"sheafworks/word"
)

// element is a word, and the number of the segment in which it is.
type element struct{ segment, word int }

// row is the elements of a list in segments, and their numbers in the order in which they stand now. The number of an element is the place at which it stands in the list.
type row struct {
	elements []element
	stand    []int
	lens     []int
}

// rowOf returns the elements of a list, each one where it stands there.
func rowOf(l, lens []int) (*row, api.Errno) {
	if err := check(l, lens); err != api.OK {
		return nil, err
	}
	if total, err := seg.Check(lens); err != api.OK || total != len(l) {
		return nil, api.ErrState
	}
	r := &row{make([]element, 0, len(l)), make([]int, 0, len(l)), lens}
listing:
	for i, part := range segments(l, lens) {
		for _, n := range part {
			r.stand = append(r.stand, len(r.stand))
			r.elements = append(r.elements, element{i, n})
			if len(r.elements) == len(l) {
				break listing // the segments that are left are empty
			}
		}
	}
	return r, api.OK
}

// split moves in each segment the elements whose words are set behind the others.
func (r *row) split(isSet func(n int) bool) {
	stand := make([]int, 0, len(r.stand))
	var behind []int
	for _, part := range segments(r.stand, r.lens) {
		behind = behind[:0]
		for _, number := range part {
			if isSet(r.elements[number].word) {
				behind = append(behind, number)
			} else {
				stand = append(stand, number)
			}
		}
		stand = append(stand, behind...)
	}
	r.stand = stand
}

// sort sorts each segment; of same words the one that was ahead in the list is ahead.
func (r *row) sort() {
	for _, part := range segments(r.stand, r.lens) {
		putInOrder(part, r.byWord, r.byNumber)
	}
}

func (r *row) byWord(x, y int) int { return cmp.Compare(r.elements[x].word, r.elements[y].word) }

func (r *row) byNumber(x, y int) int { return cmp.Compare(x, y) }

// places returns the place at which each element stands now.
func (r *row) places() []int { return inverse(r.stand) }

// ranks returns the rank of each element; the segments must be sorted.
func (r *row) ranks() []int {
	ranks := make([]int, len(r.stand))
	for _, part := range segments(r.stand, r.lens) {
		rank := 0
		for i, number := range part {
			if i > 0 && r.elements[number] != r.elements[part[i-1]] {
				rank++
			}
			ranks[number] = rank
		}
	}
	return ranks
}

// firsts returns the numbers of the elements that have no same one ahead of them in the list, and how many of each segment they are.
func (r *row) firsts() (numbers, many []int) {
	many = make([]int, len(r.lens))
	had := map[element]bool{}
	for number, x := range r.elements {
		if !had[x] {
			had[x] = true
			numbers = append(numbers, number)
			many[x.segment]++
		}
	}
	return numbers[:len(numbers):len(numbers)], many
}

// inverse returns the places that lead back from where places lead.
func inverse(places []int) []int {
	back := make([]int, len(places))
	for i, place := range places {
		back[place] = i
	}
	return back
}

// putInOrder puts a list in order by the first comparison, what is the same by this one by the second one, and so on.
func putInOrder[T any](l []T, comparisons ...func(x, y T) int) {
	slices.SortFunc(l, func(x, y T) int {
		for _, compare := range comparisons {
			if order := compare(x, y); order != 0 {
				return order
			}
		}
		return 0
	})
}

// segments produces the segments of a list, with their numbers.
func segments(l, lens []int) iter.Seq2[int, []int] {
	return func(yield func(int, []int) bool) {
		begin := 0
		for i, n := range lens {
			end := begin + n
			if !yield(i, l[begin:end:end]) {
				return
			}
			begin = end
		}
	}
}

// check returns ErrLong if a list is too long, and ErrRange if one has what is no word.
func check(lists ...[]int) api.Errno {
	for _, l := range lists {
		if len(l) > api.VecMost {
			return api.ErrLong
		}
	}
	for _, l := range lists {
		for _, n := range l {
			if !word.Is(n) {
				return api.ErrRange
			}
		}
	}
	return api.OK
}
