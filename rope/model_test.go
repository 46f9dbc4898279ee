package rope_test

import (
	"math/rand"
	"slices"

	"sheafworks/api"
)

// The definitions of the chapter, as slowly as they are said. They are for stores of few nodes.

// ahead returns of which ropes a node is made, from the chapter's table.
func ahead(n api.RopeNode) []int {
	switch n.Kind {
	case api.RopeCat:
		return list(n.A, n.B)
	case api.RopePart, api.RopeOff:
		return list(n.A)
	}
	return nil
}

func isWord(n int) bool { return n >= low && n <= high }

// wrapped returns a number as a word.
func wrapped(n int) int {
	for n > high {
		n -= 1 << 32
	}
	for n < low {
		n += 1 << 32
	}
	return n
}

// lengthValue returns the length of a rope whose node, and all ahead of it, are valid.
func lengthValue(nodes []api.RopeNode, a int) int { return len(wordsValue(nodes, a)) }

// validValue reports whether nodes are those of a valid store.
func validValue(nodes []api.RopeNode) bool {
	if len(nodes) > 4000 {
		return false
	}
	for i, n := range nodes {
		if !validNode(nodes[:i], n) || lengthValue(nodes, i) > most {
			return false
		}
	}
	return true
}

// validNode reports whether a node may stand behind others, its length aside.
func validNode(nodes []api.RopeNode, n api.RopeNode) bool {
	for _, a := range ahead(n) {
		if a < 0 || a >= len(nodes) {
			return false
		}
	}
	none := len(n.Words) == 0
	switch n.Kind {
	case api.RopeWords:
		return n.A == 0 && n.B == 0 && n.From == 0 && n.Len == 0 && n.N == 0 && !slices.ContainsFunc(n.Words, func(n int) bool { return !isWord(n) })
	case api.RopeCat:
		return n.From == 0 && n.Len == 0 && n.N == 0 && none
	case api.RopePart:
		return n.B == 0 && n.N == 0 && none && fits(n.From, n.Len, lengthValue(nodes, n.A))
	case api.RopeOff:
		return n.B == 0 && n.From == 0 && n.Len == 0 && none && isWord(n.N)
	}
	return false
}

// fits reports whether a part lies in so many words.
func fits(from, many, words int) bool {
	return from >= 0 && many >= 0 && from <= words && many <= words && from+many <= words
}

// wordsValue returns the words of a rope.
func wordsValue(nodes []api.RopeNode, a int) []int {
	switch n := nodes[a]; n.Kind {
	case api.RopeCat:
		return slices.Concat(wordsValue(nodes, n.A), wordsValue(nodes, n.B))
	case api.RopePart:
		return wordsValue(nodes, n.A)[n.From : n.From+n.Len]
	case api.RopeOff:
		var moved []int
		for _, m := range wordsValue(nodes, n.A) {
			moved = append(moved, wrapped(m+n.N))
		}
		return moved
	default:
		return n.Words
	}
}

// costValue returns how many ropes are on the way to a place.
func costValue(nodes []api.RopeNode, a, place int) int {
	n := nodes[a]
	switch n.Kind {
	case api.RopeCat:
		if first := lengthValue(nodes, n.A); place >= first {
			return 1 + costValue(nodes, n.B, place-first)
		}
		return 1 + costValue(nodes, n.A, place)
	case api.RopePart:
		return 1 + costValue(nodes, n.A, n.From+place)
	case api.RopeOff:
		return 1 + costValue(nodes, n.A, place)
	}
	return 1
}

// depthValue returns the depth of a rope.
func depthValue(nodes []api.RopeNode, a int) int {
	deep := 0
	for _, b := range ahead(nodes[a]) {
		deep = max(deep, depthValue(nodes, b))
	}
	return deep + 1
}

// piece is some words of one node.
type piece struct{ node, from, many, add int }

// piecesValue returns the pieces of a rope.
func piecesValue(nodes []api.RopeNode, a int) []piece {
	var pieces []piece
	switch n := nodes[a]; n.Kind {
	case api.RopeWords:
		if len(n.Words) > 0 {
			pieces = append(pieces, piece{a, 0, len(n.Words), 0})
		}
	case api.RopeCat:
		pieces = slices.Concat(piecesValue(nodes, n.A), piecesValue(nodes, n.B))
	case api.RopePart:
		at := 0
		for _, p := range piecesValue(nodes, n.A) {
			var places []int // of the piece's node, those that lie in the part
			for i := range p.many {
				if at+i >= n.From && at+i < n.From+n.Len {
					places = append(places, p.from+i)
				}
			}
			if len(places) > 0 {
				pieces = append(pieces, piece{p.node, places[0], len(places), p.add})
			}
			at += p.many
		}
	case api.RopeOff:
		for _, p := range piecesValue(nodes, n.A) {
			pieces = append(pieces, piece{p.node, p.from, p.many, wrapped(p.add + n.N)})
		}
	}
	return pieces
}

// evenValue balances a rope.
func evenValue(nodes []api.RopeNode, a int) ([]api.RopeNode, int) {
	all := slices.Clone(nodes)
	put := func(n api.RopeNode) int {
		all = append(all, n)
		return len(all) - 1
	}
	var ropes []int
	for _, p := range piecesValue(nodes, a) {
		rope := p.node
		if p.many != len(nodes[p.node].Words) {
			rope = put(part(rope, p.from, p.many))
		}
		if p.add != 0 {
			rope = put(off(rope, p.add))
		}
		ropes = append(ropes, rope)
	}
	var join func(ropes []int) int
	join = func(ropes []int) int {
		switch len(ropes) {
		case 0:
			return put(words())
		case 1:
			return ropes[0]
		}
		first := join(ropes[:len(ropes)/2])
		return put(cat(first, join(ropes[len(ropes)/2:])))
	}
	return all, join(ropes)
}

// needValue adds to a set what a rope is or needs.
func needValue(nodes []api.RopeNode, a int, set map[int]bool) {
	set[a] = true
	for _, b := range ahead(nodes[a]) {
		needValue(nodes, b, set)
	}
}

// keepValue returns what some ropes need.
func keepValue(nodes []api.RopeNode, ropes []int) ([]api.RopeNode, []int) {
	set := map[int]bool{}
	for _, a := range ropes {
		needValue(nodes, a, set)
	}
	number := func(a int) int { // how many are kept ahead of it
		many := 0
		for b := range a {
			if set[b] {
				many++
			}
		}
		return many
	}
	var kept []api.RopeNode
	for a, n := range nodes {
		if !set[a] {
			continue
		}
		switch n.Kind {
		case api.RopeCat:
			n = cat(number(n.A), number(n.B))
		case api.RopePart:
			n = part(number(n.A), n.From, n.Len)
		case api.RopeOff:
			n = off(number(n.A), n.N)
		}
		kept = append(kept, n)
	}
	var numbers []int
	for _, a := range ropes {
		numbers = append(numbers, number(a))
	}
	return kept, numbers
}

// checkValue returns the error of Check.
func checkValue(nodes []api.RopeNode) api.Errno {
	if len(nodes) > 4000 {
		return api.ErrLong
	}
	if !validValue(nodes) {
		return api.ErrArg
	}
	return api.OK
}

// value returns what a call has to answer.
func (c call) value() answer {
	if err := checkValue(c.nodes); err != api.OK {
		return no(err)
	}
	ropes := map[string][]int{"Check": nil, "Words": nil, "Cat": list(c.a, c.b), "Keep": c.l}
	asked, ok := ropes[c.name]
	if !ok {
		asked = list(c.a)
	}
	for _, a := range asked {
		if a < 0 || a >= len(c.nodes) {
			return no(api.ErrRange)
		}
	}
	switch c.name {
	case "Words":
		return c.grown(words(c.l...))
	case "Cat":
		return c.grown(cat(c.a, c.b))
	case "Part":
		return c.grown(part(c.a, c.b, c.n))
	case "Off":
		return c.grown(off(c.a, c.n))
	case "Even":
		nodes, a := evenValue(c.nodes, c.a)
		return grown(a, nodes...).orFull()
	case "Keep":
		nodes, numbers := keepValue(c.nodes, c.l)
		return answer{nodes: nodes, list: numbers}
	case "Len":
		return answer{number: lengthValue(c.nodes, c.a)}
	case "Flat":
		return answer{list: wordsValue(c.nodes, c.a)}
	case "Depth":
		return answer{number: depthValue(c.nodes, c.a)}
	}
	return c.placesValue()
}

// placesValue returns what Gather or Cost has to answer; of Check that all is well.
func (c call) placesValue() answer {
	if c.name == "Check" {
		return answer{}
	}
	places, long := c.l, lengthValue(c.nodes, c.a)
	if c.name == "Cost" {
		places = list(c.b)
	}
	if len(places) > most {
		return no(api.ErrLong)
	}
	var found []int
	for _, place := range places {
		if place < 0 || place >= long {
			return no(api.ErrRange)
		}
		found = append(found, wordsValue(c.nodes, c.a)[place])
	}
	if c.name == "Cost" {
		return answer{number: costValue(c.nodes, c.a, c.b)}
	}
	return answer{list: found}
}

// grown returns what has to be answered when a node is added.
func (c call) grown(n api.RopeNode) answer {
	if !validNode(c.nodes, n) {
		return no(api.ErrRange)
	}
	return grown(len(c.nodes), append(slices.Clone(c.nodes), n)...).orFull()
}

// orFull returns an answer, or ErrFull if its store has too much.
func (x answer) orFull() answer {
	if len(x.nodes) > 4000 || lengthValue(x.nodes, len(x.nodes)-1) > most {
		return no(api.ErrFull)
	}
	return x
}

// maker makes stores; those of the same seed are the same.
type maker struct{ *rand.Rand }

func newMaker(seed int64) maker { return maker{rand.New(rand.NewSource(seed))} }

// word returns a word, mostly a small one.
func (m maker) word() int { return int(int32(m.Uint32())) >> m.Intn(32) }

// words returns a list of less than so many words.
func (m maker) words(many int) []int {
	var l []int
	for range m.Intn(many) {
		l = append(l, m.word())
	}
	return l
}

// node returns a node that may stand behind others.
func (m maker) node(nodes []api.RopeNode) api.RopeNode {
	if len(nodes) == 0 || m.Intn(4) == 0 {
		return words(m.words(6)...)
	}
	a, b := m.Intn(len(nodes)), m.Intn(len(nodes))
	switch long := lengthValue(nodes, a); m.Intn(5) {
	case 0:
		from := m.Intn(long + 1)
		return part(a, from, m.Intn(long-from+1))
	case 1:
		return off(a, m.word())
	default:
		if long+lengthValue(nodes, b) > 60 {
			return part(a, 0, long)
		}
		return cat(a, b)
	}
}

// nodes returns so many valid nodes.
func (m maker) nodes(many int) []api.RopeNode {
	var nodes []api.RopeNode
	for range many {
		nodes = append(nodes, m.node(nodes))
	}
	return nodes
}

// spoilt returns nodes of which one has another number in one field; they may be valid still.
func (m maker) spoilt(nodes []api.RopeNode) []api.RopeNode {
	nodes = slices.Clone(nodes)
	n := &nodes[m.Intn(len(nodes))]
	fields := []*int{&n.Kind, &n.A, &n.B, &n.From, &n.Len, &n.N}
	if len(n.Words) > 0 {
		n.Words = slices.Clone(n.Words)
		fields = append(fields, &n.Words[m.Intn(len(n.Words))])
	}
	other := append(list(1, 2, -1, 0), odd...)
	*fields[m.Intn(len(fields))] = other[m.Intn(len(other))]
	return nodes
}
