package rope

import (
	"slices"

	"sheafworks/api"
)

// store is a store that grows, with the length of each rope by its number.
type store struct {
	api.RopeStore
	lens map[int]int
}

// open returns a store that grows from one that is given; it panics with the error of Check.
func open(given api.RopeStore) *store {
	if len(given.Nodes) > api.RopeMost {
		panic(api.ErrLong)
	}
	s := &store{lens: make(map[int]int, len(given.Nodes))}
	for _, n := range given.Nodes {
		if s.refuses(n) != api.OK {
			panic(api.ErrArg)
		}
		s.put(n)
	}
	return s
}

// add puts a node behind the others and returns its number; it panics with the error of a node that is refused.
func (s *store) add(n api.RopeNode) int {
	if err := s.refuses(n); err != api.OK {
		panic(err)
	}
	return s.put(n)
}

// put puts a node that is not refused behind the others, and returns its number.
func (s *store) put(n api.RopeNode) int {
	number := len(s.Nodes)
	s.lens[number] = s.size(n)
	s.Nodes = append(s.Nodes, n)
	return number
}

// refuses returns why a node may not be put behind the others: ErrRange if it does not fit, ErrFull if it would be too much.
func (s *store) refuses(n api.RopeNode) api.Errno {
	if !s.fits(n) {
		return api.ErrRange
	}
	if len(s.Nodes) == api.RopeMost || s.size(n) > api.VecMost {
		return api.ErrFull
	}
	return api.OK
}

// fits reports whether a node is made of words, of spans of the ropes that are there, and of nothing else.
func (s *store) fits(n api.RopeNode) bool {
	if n.Kind < 0 || n.Kind >= len(kinds()) {
		return false
	}
	for _, number := range kinds()[n.Kind].unused(node(n)) {
		if number != 0 {
			return false
		}
	}
	for _, part := range s.parts(n) {
		if !s.has(part) {
			return false
		}
	}
	return areWords(n.Words...)
}

// has reports whether there is such a span.
func (s *store) has(of span) bool {
	long, ok := s.lens[of.rope]
	// The place and the length are not added here: their sum could overflow.
	return ok && of.from >= 0 && of.many >= 0 && of.from <= long-of.many && areWords(of.add)
}

// size returns how many words a node has.
func (s *store) size(n api.RopeNode) int {
	many := len(n.Words)
	for _, part := range s.parts(n) {
		many += part.many
	}
	return many
}

// rope returns all of a rope; it panics with ErrRange if there is none of this number.
func (s *store) rope(a int) span {
	if a < 0 || a >= len(s.Nodes) {
		panic(api.ErrRange)
	}
	return s.all(a)[0]
}

// depth returns how many ropes stand within one another.
func (s *store) depth(a int) int {
	deep := make([]int, a+1)
	for i, n := range s.Nodes[:a+1] {
		for _, part := range s.parts(n) {
			deep[i] = max(deep[i], deep[part.rope])
		}
		deep[i]++
	}
	return deep[a]
}

// even balances a rope, and returns the number of the rope that is balanced.
func (s *store) even(of span) int {
	var ropes []int
collecting:
	for piece := range s.pieces(of) {
		ropes = append(ropes, s.ropeOf(piece))
		if len(s.Nodes)+len(ropes)-1 > api.RopeMost {
			break collecting // to join these is too much already
		}
	}
	if len(ropes) == 0 {
		return s.add(api.RopeNode{Kind: api.RopeWords})
	}
	var join func(ropes []int) int
	join = func(ropes []int) int {
		if len(ropes) == 1 {
			return ropes[0]
		}
		half := len(ropes) / 2
		first := join(ropes[:half])
		second := join(ropes[half:])
		return s.add(api.RopeNode{Kind: api.RopeCat, A: first, B: second})
	}
	return join(ropes)
}

// ropeOf returns a rope that has the words of a piece.
func (s *store) ropeOf(piece span) int {
	a := piece.rope
	if piece.many < s.lens[a] {
		a = s.add(api.RopeNode{Kind: api.RopePart, A: a, From: piece.from, Len: piece.many})
	}
	if piece.add != 0 {
		a = s.add(api.RopeNode{Kind: api.RopeOff, A: a, N: piece.add})
	}
	return a
}

// needed is ropes that are needed: those that are asked for, or those of which another one is made.
type needed interface{ ropes() []int }

// asked is the numbers of ropes that are asked for.
type asked []int

func (a asked) ropes() []int { return a }

// kept is a store with what is needed alone, and the numbers that ropes have in it.
type kept struct {
	api.RopeStore
	ropes []int
}

// keep returns what is needed for some ropes; it panics with ErrRange if one of them is none.
func (s *store) keep(ropes []int) kept {
	keeps := map[int]bool{}
	need := func(n needed) {
		for _, a := range n.ropes() {
			keeps[s.rope(a).rope] = true
		}
	}
	need(asked(ropes))
	// What a rope needs stands ahead of it.
	for a, n := range slices.Backward(s.Nodes) {
		if keeps[a] {
			need(s.parts(n))
		}
	}
	var nodes []api.RopeNode
	numbers := map[int]int{}
	for a, n := range s.Nodes {
		if keeps[a] {
			numbers[a] = len(nodes)
			// The number 0 becomes 0 in any case, so a field that is not used stays as it is.
			n.A, n.B = numbers[n.A], numbers[n.B]
			nodes = append(nodes, n)
		}
	}
	k := kept{copied(nodes), make([]int, len(ropes))}
	for i, a := range ropes {
		k.ropes[i] = numbers[a]
	}
	return k
}

// copied returns a store of these nodes that has its own lists of words.
func copied(nodes []api.RopeNode) api.RopeStore {
	s := api.RopeStore{Nodes: slices.Clone(nodes)}
	for i, n := range nodes {
		s.Nodes[i].Words = slices.Clone(n.Words)
	}
	return s
}
