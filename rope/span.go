package rope

import (
	"iter"
	"slices"

	"sheafworks/api"
)

// span is so many words of a rope, from a place on, each with a number added.
type span struct{ rope, from, many, add int }

// at returns the word at a place of a span alone; it panics with ErrRange if there is no such place.
func (of span) at(place int) span {
	if place < 0 || place >= of.many {
		panic(api.ErrRange)
	}
	return span{of.rope, of.from + place, 1, of.add}
}

// spans is spans that stand one behind the other.
type spans []span

// ropes returns the numbers of the ropes.
func (l spans) ropes() []int {
	var numbers []int
	for _, part := range l {
		numbers = append(numbers, part.rope)
	}
	return numbers
}

// below returns the spans of which a span is made; none of them is empty.
func (s *store) below(of span) spans {
	var cut spans
	begin := 0 // where a part begins in the rope
	for _, part := range s.parts(s.Nodes[of.rope]) {
		from := max(of.from-begin, 0)
		end := min(of.from+of.many-begin, part.many)
		if from < end {
			cut = append(cut, span{part.rope, part.from + from, end - from, asWord(part.add + of.add)})
		}
		begin += part.many
	}
	return cut
}

// walk enters a span, unless it is empty, and then those of which it is made, if enter says so.
func (s *store) walk(of span, enter func(span) bool) {
	if of.many == 0 || !enter(of) {
		return
	}
	for _, part := range s.below(of) {
		s.walk(part, enter)
	}
}

// pieces produces the pieces of a span.
func (s *store) pieces(of span) iter.Seq[span] {
	return func(yield func(span) bool) {
		goesOn := true
		s.walk(of, func(of span) bool {
			if goesOn && s.Nodes[of.rope].Kind == api.RopeWords {
				goesOn = yield(of)
			}
			return goesOn
		})
	}
}

// flat returns the words of a span. To a rope that is shared it comes once, and then copies its words: the ways to all its pieces may be too many to be gone again.
func (s *store) flat(of span) []int {
	words := make([]int, 0, of.many)
	put := func(l []int, add int) {
		for _, n := range l {
			words = append(words, asWord(n+add))
		}
	}
	type place struct{ at, add int }
	stands := map[int]place{} // of each rope that was put as a whole
	s.walk(of, func(of span) bool {
		if there, ok := stands[of.rope]; ok {
			put(words[there.at+of.from:][:of.many], of.add-there.add)
			return false
		}
		if of.many == s.lens[of.rope] {
			stands[of.rope] = place{len(words), of.add}
		}
		if n := s.Nodes[of.rope]; n.Kind == api.RopeWords {
			put(n.Words[of.from:][:of.many], of.add)
		}
		return true
	})
	return words
}

// gather returns the words of a span at some places.
func (s *store) gather(of span, places []int) []int {
	if len(places) > api.VecMost {
		panic(api.ErrLong)
	}
	find := func(at span) int { return s.flat(at)[0] }
	// Many words are found sooner among all of them than each on a way of its own.
	if len(places)*s.depth(of.rope) > of.many {
		all := s.flat(of)
		find = func(at span) int { return all[at.from-of.from] }
	}
	words := make([]int, len(places))
	for i, place := range places {
		words[i] = find(of.at(place))
	}
	return words
}

// cost returns how many ropes are on the way to a word.
func (s *store) cost(of span) int {
	many := 0
	s.walk(of, func(span) bool {
		many++
		return true
	})
	return many
}

// asWord returns a number as a word.
func asWord(n int) int { return int(int32(n)) }

// areWords reports whether numbers are words.
func areWords(numbers ...int) bool {
	return !slices.ContainsFunc(numbers, func(n int) bool { return n != asWord(n) })
}
