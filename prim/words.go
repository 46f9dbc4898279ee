package prim

import (
	"iter"
	"slices"

	"sheafworks/api"
	"sheafworks/word"
)

// words is a list of words.
type words []int

// add writes a word behind the others.
func (w *words) add(n int) { *w = append(*w, n) }

// addAll writes copies of words behind the others.
func (w *words) addAll(part []int) {
	end := len(*w)
	*w = slices.Grow(*w, len(part))[:end+len(part)]
	copy((*w)[end:], part)
}

// result returns the list with no room behind it, which an append by the caller could write to.
func (w *words) result() []int {
	end := len(*w)
	return (*w)[:end:end]
}

// placewise is a list in the making, of which at returns the word of each place.
type placewise struct {
	words
	at func(place int) (int, api.Errno)
}

// first returns the words of so many places, or the first error at one of them.
func (p placewise) first(many int) ([]int, api.Errno) {
	p.words = make(words, 0, many)
	for place := range many {
		n, err := p.at(place)
		if err != api.OK {
			return nil, err
		}
		p.add(n)
	}
	return p.result(), api.OK
}

// set produces the places of the flags that are set.
func set(flags []int) iter.Seq[int] {
	return func(yield func(int) bool) {
		for place, flag := range flags {
			if flag != 0 && !yield(place) {
				return
			}
		}
	}
}

// areSet reports whether just so many flags are set.
func areSet(flags []int, many int) bool {
	left := many
counting:
	for range set(flags) {
		left--
		if left < 0 {
			break counting
		}
	}
	return left == 0
}

// check returns ErrLong if a list is too long, and ErrRange if one has what is no word.
func check(lists ...[]int) api.Errno {
	if !all(isShort, lists...) {
		return api.ErrLong
	}
	if !all(hasWords, lists...) {
		return api.ErrRange
	}
	return api.OK
}

// checkEven returns the errors of check, and ErrState unless all lists are as long.
func checkEven(lists ...[]int) api.Errno {
	if err := check(lists...); err != api.OK {
		return err
	}
	even := func(list []int) bool { return len(list) == len(lists[0]) }
	if !all(even, lists...) {
		return api.ErrState
	}
	return api.OK
}

// total returns the sum of words; it returns ErrTrap if one is below 0, and ErrFull if no list could have so many words.
func total(times []int) (int, api.Errno) {
	if !all(isTimes, times...) {
		return 0, api.ErrTrap
	}
	sum := 0 // it cannot overflow: there are at most VecMost words
	for _, n := range times {
		sum += n
	}
	if sum > api.VecMost {
		return 0, api.ErrFull
	}
	return sum, api.OK
}

// all reports whether something holds of each of these.
func all[T any](holds func(T) bool, these ...T) bool {
	for _, one := range these {
		if !holds(one) {
			return false
		}
	}
	return true
}

func isShort(list []int) bool { return len(list) <= api.VecMost }

func hasWords(list []int) bool { return all(word.Is, list...) }

func isTimes(n int) bool { return n >= 0 }

// isPlace reports whether a list has a place of this number.
func isPlace(n int, list []int) bool { return n >= 0 && n < len(list) }
