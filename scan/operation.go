package scan

import (
	"iter"
	"slices"

	"sheafworks/api"
	"sheafworks/word"
)

// operation is how words are joined, and the word that changes none of them.
type operation struct {
	neutral int
	join    func(a, b int) int
}

// operationOf returns the operation of a number.
func operationOf(op int) (operation, api.Errno) {
	neutral, err := word.Neutral(op)
	if err != api.OK {
		return operation{}, err
	}
	join := func(a, b int) int {
		// No error can come: what is joined are words, and no operation with a neutral word traps.
		n, _ := word.Do(op, a, b)
		return n
	}
	return operation{neutral, join}, api.OK
}

// from returns what comes of joining words to one ahead of them: none of them, the first one, and so on, up to all.
func (o operation) from(first int, l []int) []int { return inOrder(o.join, first, l) }

// pass goes through segments, and keeps a part of what comes of each one.
type pass struct {
	operation
	keep func(joined []int) []int
}

// of returns what is kept of all segments of a list.
func (p pass) of(l, lens []int) []int {
	var kept []int
	for _, part := range segments(l, lens) {
		kept = append(kept, p.keep(p.from(p.neutral, part))...)
	}
	return kept[:len(kept):len(kept)]
}

// whole keeps all words joined.
func whole(joined []int) []int { return joined[len(joined)-1:] }

// ahead keeps for each word those ahead of it, joined.
func ahead(joined []int) []int { return joined[:len(joined)-1] }

// upTo keeps for each word those up to it, joined.
func upTo(joined []int) []int { return joined[1:] }

// flagged joins flagged words by an operation on words.
type flagged struct{ operation }

// none returns the flagged word that changes no other one.
func (f flagged) none() api.ScanFlag { return api.ScanFlag{N: f.neutral} }

// both returns two flagged words joined.
func (f flagged) both(x, y api.ScanFlag) api.ScanFlag {
	if x == f.none() || y.Flag {
		return y
	}
	return api.ScanFlag{Flag: x.Flag, N: f.join(x.N, y.N)}
}

// inOrder returns first, and behind it what comes of joining it to all of a list, one after the other.
func inOrder[T any](join func(a, b T) T, first T, l []T) []T {
	all := make([]T, len(l)+1)
	all[0] = first
	for i, next := range l {
		all[i+1] = join(all[i], next)
	}
	return all
}

// segments produces the segments of a list, with their numbers.
func segments(l, lens []int) iter.Seq2[int, []int] {
	return func(yield func(int, []int) bool) {
		begin := 0
		for i, n := range lens {
			end := begin + n
			if !yield(i, l[begin:end:end]) {
				return
			}
			begin = end
		}
	}
}

// checked returns the operation of a number, if the lists are of words, and not too long.
func checked(op int, lists ...[]int) (operation, api.Errno) {
	o, err := operationOf(op)
	if err != api.OK {
		return operation{}, err
	}
	if err := check(lists...); err != api.OK {
		return operation{}, err
	}
	return o, api.OK
}

// check returns ErrLong if a list is too long, and ErrRange if one has what is no word.
func check(lists ...[]int) api.Errno {
	if slices.ContainsFunc(lists, isLong) {
		return api.ErrLong
	}
	if slices.ContainsFunc(lists, hasOthers) {
		return api.ErrRange
	}
	return api.OK
}

func isLong(l []int) bool { return len(l) > api.VecMost }

// hasOthers reports whether a list has what is no word.
func hasOthers(l []int) bool {
	return slices.ContainsFunc(l, func(n int) bool { return !word.Is(n) })
}
