package rope_test

import (
	"math"
	"slices"
	"testing"

	"sheafworks/api"
	"sheafworks/rope"
)

const (
	low  = api.WordLow
	high = api.WordHigh
	most = api.VecMost
)

// odd is numbers that are seldom right.
var odd = list(math.MinInt, low-1, low, high, high+1, 1<<32, math.MaxInt)

// list writes a list of numbers.
func list(numbers ...int) []int { return numbers }

// filled returns a list of one number, so many times.
func filled(many, n int) []int { return slices.Repeat(list(n), many) }

// upTo returns the numbers from 0 on, so many.
func upTo(many int) []int {
	l := make([]int, many)
	for i := range l {
		l[i] = i
	}
	return l
}

func words(l ...int) api.RopeNode { return api.RopeNode{Kind: api.RopeWords, Words: l} }

func cat(a, b int) api.RopeNode { return api.RopeNode{Kind: api.RopeCat, A: a, B: b} }

func part(a, from, many int) api.RopeNode {
	return api.RopeNode{Kind: api.RopePart, A: a, From: from, Len: many}
}

func off(a, n int) api.RopeNode { return api.RopeNode{Kind: api.RopeOff, A: a, N: n} }

// example returns the nodes of the chapter's store S.
func exampleS() []api.RopeNode {
	return []api.RopeNode{words(5, 6, 7), words(8), cat(0, 1), part(2, 1, 3), off(3, 10), cat(4, 2)}
}

// call is a call of a function of the package; which of the numbers it has depends on the function.
type call struct {
	name    string
	nodes   []api.RopeNode
	a, b, n int
	l       []int
}

// answer is what a call returns.
type answer struct {
	nodes  []api.RopeNode
	list   []int
	number int
	err    api.Errno
}

// no returns the answer with an error.
func no(err api.Errno) answer { return answer{err: err} }

// grown returns the answer with a rope and a store of these nodes.
func grown(a int, nodes ...api.RopeNode) answer { return answer{nodes: nodes, number: a} }

// names is all functions of the package.
var names = []string{"Check", "Words", "Cat", "Part", "Off", "Len", "Flat", "Gather", "Cost", "Depth", "Even", "Keep"}

// answer calls the function.
func (c call) answer() (x answer) {
	s := api.RopeStore{Nodes: c.nodes}
	var grown api.RopeStore
	switch c.name {
	case "Check":
		x.err = rope.Check(s)
	case "Words":
		grown, x.number, x.err = rope.Words(s, c.l)
	case "Cat":
		grown, x.number, x.err = rope.Cat(s, c.a, c.b)
	case "Part":
		grown, x.number, x.err = rope.Part(s, c.a, c.b, c.n)
	case "Off":
		grown, x.number, x.err = rope.Off(s, c.a, c.n)
	case "Len":
		x.number, x.err = rope.Len(s, c.a)
	case "Flat":
		x.list, x.err = rope.Flat(s, c.a)
	case "Gather":
		x.list, x.err = rope.Gather(s, c.a, c.l)
	case "Cost":
		x.number, x.err = rope.Cost(s, c.a, c.b)
	case "Depth":
		x.number, x.err = rope.Depth(s, c.a)
	case "Even":
		grown, x.number, x.err = rope.Even(s, c.a)
	case "Keep":
		grown, x.list, x.err = rope.Keep(s, c.l)
	default:
		panic("no function " + c.name)
	}
	x.nodes = grown.Nodes
	return x
}

// isSame reports whether two answers are the same; a nil list is an empty one.
func (x answer) isSame(y answer) bool {
	return x.number == y.number && x.err == y.err && slices.Equal(x.list, y.list) && areSame(x.nodes, y.nodes)
}

// areSame reports whether nodes are the same; a nil list is an empty one.
func areSame(l, other []api.RopeNode) bool {
	return slices.EqualFunc(l, other, func(n, m api.RopeNode) bool {
		return n.Kind == m.Kind && n.A == m.A && n.B == m.B && n.From == m.From && n.Len == m.Len && n.N == m.N && slices.Equal(n.Words, m.Words)
	})
}

// want checks what is answered.
func (c call) want(t *testing.T, want answer) {
	t.Helper()
	if got := c.answer(); !got.isSame(want) {
		t.Errorf("%s %d %d %d %v, of %v: %v; want %v", c.name, c.a, c.b, c.n, some(c.l), some(c.nodes), got.some(), want.some())
	}
}

// check checks that what is answered is what the definitions say.
func (c call) check(t *testing.T) {
	t.Helper()
	c.want(t, c.value())
}

// some returns the first few of a list.
func some[T any](l []T) []T { return l[:min(len(l), 12)] }

// some returns an answer with the first few of its lists.
func (x answer) some() answer { return answer{some(x.nodes), some(x.list), x.number, x.err} }

// example is a call and its answer.
type example struct {
	call
	want answer
}

// P6.1 to P6.6: the chapter's examples.
func TestExamples(t *testing.T) {
	s := exampleS()
	more := func(a int, n ...api.RopeNode) answer { return grown(a, append(exampleS(), n...)...) }
	none := append(exampleS(), words())
	for _, x := range []example{
		{call{name: "Check"}, answer{}},
		{call{name: "Flat", a: 2}, answer{list: list(5, 6, 7, 8)}},
		{call{name: "Flat", a: 3}, answer{list: list(6, 7, 8)}},
		{call{name: "Flat", a: 4}, answer{list: list(16, 17, 18)}},
		{call{name: "Flat", a: 5}, answer{list: list(16, 17, 18, 5, 6, 7, 8)}},
		{call{name: "Len", a: 5}, answer{number: 7}},
		{call{name: "Depth", a: 5}, answer{number: 5}},
		{call{name: "Depth", a: 1}, answer{number: 1}},
		{call{name: "Gather", a: 5, l: list(0, 6, 2)}, answer{list: list(16, 8, 18)}},
		{call{name: "Cost", a: 5, b: 0}, answer{number: 5}},
		{call{name: "Cost", a: 5, b: 6}, answer{number: 3}},
		{call{name: "Cost", a: 5, b: 7}, no(api.ErrRange)},
		{call{name: "Even", a: 3}, more(7, part(0, 1, 2), cat(6, 1))},
		{call{name: "Even", a: 4}, more(9, part(0, 1, 2), off(6, 10), off(1, 10), cat(7, 8))},
		{call{name: "Even", a: 0}, more(0)},
		{call{name: "Even", nodes: none, a: 6}, grown(7, append(none, words())...)},
		{call{name: "Keep", l: list(3, 1)}, answer{nodes: s[:4], list: list(3, 1)}},
		{call{name: "Part", a: 0, b: 2, n: 2}, no(api.ErrRange)},
		{call{name: "Off", a: 0, n: 1 << 31}, no(api.ErrRange)},
		{call{name: "Cat", a: 0, b: 9}, no(api.ErrRange)},
	} {
		if x.nodes == nil {
			x.nodes = s
		}
		x.call.want(t, x.want)
		x.call.check(t)
	}
}

// P6.2 to P6.6: more of them, at the edges of what the definitions say.
func TestMoreExamples(t *testing.T) {
	s := []api.RopeNode{words(1, 2, 3), words(), off(0, high), off(2, 1), off(3, low), cat(1, 0), part(5, 3, 0), part(4, 0, 3), cat(1, 1), part(8, 0, 0)}
	more := func(a int, n ...api.RopeNode) answer { return grown(a, append(slices.Clone(s), n...)...) }
	for _, x := range []example{
		{call{name: "Words"}, more(10, words())},
		{call{name: "Words", l: list(low, high)}, more(10, words(low, high))},
		{call{name: "Cat", a: 9, b: 9}, more(10, cat(9, 9))},
		{call{name: "Part", a: 0, b: 0, n: 3}, more(10, part(0, 0, 3))},
		{call{name: "Part", a: 0, b: 3, n: 0}, more(10, part(0, 3, 0))},
		{call{name: "Part", a: 1}, more(10, part(1, 0, 0))},
		{call{name: "Off", a: 9, n: low}, more(10, off(9, low))},
		{call{name: "Flat", a: 2}, answer{list: list(low, low+1, low+2)}},
		{call{name: "Flat", a: 4}, answer{list: list(1, 2, 3)}},
		{call{name: "Depth", a: 6}, answer{number: 3}},
		{call{name: "Depth", a: 9}, answer{number: 3}},
		{call{name: "Cost", a: 5, b: 0}, answer{number: 2}},
		{call{name: "Cost", a: 7, b: 2}, answer{number: 5}},
		{call{name: "Gather", a: 6}, answer{}},
		{call{name: "Gather", a: 7, l: list(2, 2, 0)}, answer{list: list(3, 3, 1)}},
		{call{name: "Even", a: 3}, more(10, off(0, low))}, // what is added is high and 1, as a word
		{call{name: "Even", a: 4}, more(0)},
		{call{name: "Even", a: 7}, more(0)},
		{call{name: "Even", a: 5}, more(0)},
		{call{name: "Even", a: 6}, more(10, words())},
		{call{name: "Even", a: 9}, more(10, words())},
		{call{name: "Keep"}, answer{}},
		{call{name: "Keep", l: list(1, 1)}, answer{nodes: s[1:2], list: list(0, 0)}},
		{call{name: "Keep", l: list(9)}, answer{nodes: []api.RopeNode{words(), cat(0, 0), part(1, 0, 0)}, list: list(2)}},
		{call{name: "Keep", l: list(6, 2)}, answer{nodes: []api.RopeNode{s[0], s[1], off(0, high), cat(1, 0), part(3, 3, 0)}, list: list(4, 2)}},
		{call{name: "Keep", l: upTo(10)}, answer{nodes: s, list: upTo(10)}},
	} {
		x.nodes = s
		x.call.want(t, x.want)
		x.call.check(t)
	}
	twice := []api.RopeNode{words(1, 2), cat(0, 0), part(1, 1, 2), cat(2, 1), off(3, 5)}
	for _, x := range []example{
		{call{name: "Even", a: 1}, grown(5, append(twice, cat(0, 0))...)},
		{call{name: "Even", a: 3}, grown(9, append(twice, part(0, 1, 1), part(0, 0, 1), cat(5, 6), cat(0, 0), cat(7, 8))...)},
		{call{name: "Even", a: 4}, grown(13, append(twice, part(0, 1, 1), off(5, 5), part(0, 0, 1), off(7, 5), off(0, 5), off(0, 5), cat(6, 8), cat(9, 10), cat(11, 12))...)},
	} {
		x.nodes = twice
		x.call.want(t, x.want)
		x.call.check(t)
	}
}

// badStores returns stores that are not valid, each with one thing that is wrong.
func badStores() [][]api.RopeNode {
	var all [][]api.RopeNode
	with := func(n api.RopeNode) { all = append(all, append(exampleS(), n), append(exampleS(), n, words(1))) }
	for _, a := range append(odd, -1, 6, 7) {
		with(cat(a, 0))
		with(cat(0, a))
		with(part(a, 0, 0))
		with(off(a, 0))
	}
	for _, n := range append(odd, -1, 4, 5) {
		with(api.RopeNode{Kind: n})
		with(part(0, n, 0))
		with(part(0, 0, n))
		with(part(0, n, 1))
		with(part(0, 1, n))
	}
	with(part(0, 3, 1))
	with(part(0, math.MaxInt, math.MaxInt))
	with(part(0, math.MaxInt, math.MinInt))
	with(part(0, math.MinInt, math.MinInt))
	with(part(0, math.MaxInt, 2-math.MaxInt))
	for _, n := range list(math.MinInt, low-1, high+1, 1<<32, math.MaxInt) {
		with(off(0, n))
		with(words(n))
		with(words(1, 2, n))
	}
	for _, uses := range []api.RopeNode{words(0), cat(1, 1), part(1, 1, 1), off(1, 1)} {
		for _, n := range append(odd, -1, 1) {
			for i, used := range []int{uses.A, uses.B, uses.From, uses.Len, uses.N} {
				spare := api.RopeNode{Kind: uses.Kind}
				*[]*int{&spare.A, &spare.B, &spare.From, &spare.Len, &spare.N}[i] = n
				if used == 0 {
					with(spare)
				}
			}
		}
		if len(uses.Words) == 0 {
			with(api.RopeNode{Kind: uses.Kind, Words: list(0)})
		}
	}
	all = append(all, []api.RopeNode{cat(0, 0)}, []api.RopeNode{part(0, 0, 0)}, []api.RopeNode{off(0, 0)}, []api.RopeNode{words(), cat(1, 1)}, []api.RopeNode{words(), cat(0, 1)}, []api.RopeNode{off(1, 0), words()})
	return all
}

// P6.1: each function returns the error of the store first, whatever else is wrong.
func TestErrorsOfStores(t *testing.T) {
	for i, nodes := range badStores() {
		for _, name := range names {
			call{name: name, nodes: nodes, l: list(0)}.want(t, no(api.ErrArg))
			call{name: name, nodes: nodes, a: -1, b: -1, n: high + 1, l: list(high + 1)}.want(t, no(api.ErrArg))
		}
		if checkValue(nodes) != api.ErrArg {
			t.Errorf("%d: %v is valid", i, nodes)
		}
	}
	for _, name := range names {
		for _, first := range []api.RopeNode{words(), {Kind: 9}, words(high + 1)} {
			long := append(slices.Repeat([]api.RopeNode{words()}, 4000), first)
			call{name: name, nodes: long, a: -1, b: -1, n: high + 1, l: list(high + 1)}.want(t, no(api.ErrLong))
			call{name: name, nodes: slices.Concat(long[4000:], long[:4000]), l: filled(most+1, 0)}.want(t, no(api.ErrLong))
		}
		call{name: name, nodes: append(exampleS(), api.RopeNode{Kind: 4}), l: filled(most+1, 0)}.want(t, no(api.ErrArg))
	}
}

// P6.1, P6.2, P6.4 and P6.6: errors of what is asked.
func TestErrorsOfQuestions(t *testing.T) {
	s := exampleS()
	for _, a := range append(odd, -1, 6, 7) {
		for _, name := range names[2:11] {
			for _, l := range [][]int{nil, list(0), list(-1), list(high + 1), filled(most+1, 9)} {
				call{name: name, nodes: s, a: a, b: 1, n: 1, l: l}.want(t, no(api.ErrRange))
				call{name: name, nodes: nil, a: a, b: 1, n: 1, l: l}.want(t, no(api.ErrRange))
			}
		}
		call{name: "Cat", nodes: s, a: 1, b: a}.want(t, no(api.ErrRange))
		for _, l := range [][]int{list(a), list(0, a), list(a, 0), list(5, 5, a, 5)} {
			call{name: "Keep", nodes: s, l: l}.want(t, no(api.ErrRange))
		}
	}
	for _, n := range append(odd, -2, -1, 0, 1, 2, 3, 4, 7) {
		for _, c := range []call{
			{name: "Words", l: list(n)}, {name: "Words", l: list(1, n)}, {name: "Words", l: list(n, 1)},
			{name: "Part", b: n}, {name: "Part", n: n}, {name: "Part", b: n, n: n}, {name: "Part", b: 1, n: n}, {name: "Part", b: n, n: 1}, {name: "Part", b: n, n: -n}, {name: "Part", b: 3 - n, n: n}, {name: "Part", b: 4 - n, n: n},
			{name: "Off", n: n}, {name: "Cost", b: n},
			{name: "Gather", l: list(n)}, {name: "Gather", l: list(0, n)}, {name: "Gather", l: list(n, 0)}, {name: "Gather", l: append(filled(40, 0), n)}, {name: "Gather", l: append(list(n), filled(40, 0)...)},
		} {
			c.nodes = s
			for a := range s {
				c.a = a
				c.check(t)
			}
		}
	}
	call{name: "Keep"}.want(t, answer{})
	call{name: "Check"}.want(t, answer{})
	call{name: "Words", l: list(4)}.want(t, grown(0, words(4)))
}

// P6.1: stores with as many nodes as there may be, and what may be added to others.
func TestStoresAtTheLimits(t *testing.T) {
	full := append(slices.Repeat([]api.RopeNode{words(1, 2)}, 3998), cat(0, 1), part(3998, 0, 2))
	for _, x := range []example{
		{call{name: "Check"}, answer{}},
		{call{name: "Words"}, no(api.ErrFull)},
		{call{name: "Words", l: list(low - 1)}, no(api.ErrRange)},
		{call{name: "Words", l: filled(most+1, 0)}, no(api.ErrFull)},
		{call{name: "Cat"}, no(api.ErrFull)},
		{call{name: "Cat", b: 4000}, no(api.ErrRange)},
		{call{name: "Part"}, no(api.ErrFull)},
		{call{name: "Part", n: 3}, no(api.ErrRange)},
		{call{name: "Off"}, no(api.ErrFull)},
		{call{name: "Off", n: low - 1}, no(api.ErrRange)},
		{call{name: "Even", a: 3997}, grown(3997, full...)},
		{call{name: "Even", a: 3999}, grown(0, full...)},
		{call{name: "Even", a: 3998}, no(api.ErrFull)},
		{call{name: "Even", a: 4000}, no(api.ErrRange)},
		{call{name: "Keep", l: upTo(4000)}, answer{nodes: full, list: upTo(4000)}},
		{call{name: "Flat", a: 3999}, answer{list: list(1, 2)}},
	} {
		x.nodes = full
		x.call.want(t, x.want)
	}
	for _, c := range []call{{name: "Words", l: list(high)}, {name: "Cat", a: 3, b: 3998}, {name: "Part", a: 3998, b: 1, n: 3}, {name: "Off", a: 3998, n: high}} {
		c.nodes = full[:3999]
		c.check(t)
		if x := c.answer(); x.number != 3999 || x.err != api.OK {
			t.Errorf("%s with the last node: %d, error %d", c.name, x.number, x.err)
		}
	}
}

// P6.5: ropes that take all nodes that are left when they are balanced, or more.
func TestBalancedAtTheLimits(t *testing.T) {
	ropes := []api.RopeNode{words(1, 2, 3), cat(0, 0), part(1, 1, 4), off(2, 7), words(), part(0, 0, 3), off(0, 1)}
	for a, takes := range list(0, 1, 3, 5, 1, 0, 1) {
		for left := range 8 {
			nodes := append(slices.Clone(ropes), slices.Repeat([]api.RopeNode{words(5)}, 4000-left-len(ropes))...)
			want := no(api.ErrFull)
			if takes <= left {
				want = call{name: "Even", nodes: nodes, a: a}.value()
			}
			call{name: "Even", nodes: nodes, a: a}.want(t, want)
			if len(want.nodes) != 0 && len(want.nodes) != len(nodes)+takes {
				t.Errorf("%d: %d nodes", a, len(want.nodes))
			}
		}
	}
	chain := []api.RopeNode{words(1)} // 2000 pieces, which are joined to one by 1999 nodes
	for i := range 1999 {
		chain = append(chain, cat(i, 0))
	}
	for _, many := range list(3999, 4000) {
		nodes, a := evenValue(chain, 1999)
		call{name: "Even", nodes: chain, a: 1999}.want(t, grown(a, nodes...))
		if len(nodes) != many {
			t.Errorf("a chain is balanced by %d nodes", len(nodes)-len(chain))
		}
		chain = append(chain, words())
	}
	call{name: "Even", nodes: chain, a: 1999}.want(t, no(api.ErrFull))
}

// P6.1 and P6.2: ropes as long as they may be, and longer.
func TestLongRopes(t *testing.T) {
	long, half := words(upTo(most)...), words(filled(most/2, 3)...)
	for _, x := range []example{
		{call{name: "Words", l: long.Words}, grown(0, long)},
		{call{name: "Words", l: append(long.Words, 0)}, no(api.ErrFull)},
		{call{name: "Words", l: append(long.Words, high+1)}, no(api.ErrRange)},
		{call{name: "Check", nodes: []api.RopeNode{words(append(long.Words, 0)...)}}, no(api.ErrArg)},
		{call{name: "Check", nodes: []api.RopeNode{long, off(0, 1), part(1, 0, most)}}, answer{}},
		{call{name: "Cat", nodes: []api.RopeNode{half}}, grown(1, half, cat(0, 0))},
		{call{name: "Cat", nodes: []api.RopeNode{half, cat(0, 0), words()}, a: 1, b: 2}, grown(3, half, cat(0, 0), words(), cat(1, 2))},
		{call{name: "Cat", nodes: []api.RopeNode{half, cat(0, 0), words(1)}, a: 1, b: 2}, no(api.ErrFull)},
		{call{name: "Cat", nodes: []api.RopeNode{long}}, no(api.ErrFull)},
		{call{name: "Cat", nodes: []api.RopeNode{long}, b: 1}, no(api.ErrRange)},
		{call{name: "Check", nodes: []api.RopeNode{long, cat(0, 0)}}, no(api.ErrArg)},
		{call{name: "Flat", nodes: []api.RopeNode{long, cat(0, 0), part(1, 0, 1)}, a: 2}, no(api.ErrArg)},
		{call{name: "Len", nodes: []api.RopeNode{half, cat(0, 0)}, a: 1}, answer{number: most}},
		{call{name: "Flat", nodes: []api.RopeNode{half, cat(0, 0)}, a: 1}, answer{list: filled(most, 3)}},
		{call{name: "Flat", nodes: []api.RopeNode{long}}, answer{list: long.Words}},
		{call{name: "Gather", nodes: []api.RopeNode{long}, l: long.Words}, answer{list: long.Words}},
		{call{name: "Gather", nodes: []api.RopeNode{words(4)}, l: filled(most, 0)}, answer{list: filled(most, 4)}},
		{call{name: "Gather", nodes: []api.RopeNode{words(4)}, l: filled(most+1, 0)}, no(api.ErrLong)},
		{call{name: "Gather", nodes: []api.RopeNode{words(4)}, l: filled(most+1, -1)}, no(api.ErrLong)},
		{call{name: "Gather", nodes: []api.RopeNode{words(4)}, l: append(filled(most-1, 0), 1)}, no(api.ErrRange)},
		{call{name: "Gather", nodes: []api.RopeNode{words(4)}, a: 1, l: filled(most+1, 0)}, no(api.ErrRange)},
		{call{name: "Gather", nodes: []api.RopeNode{long}, l: list(most)}, no(api.ErrRange)},
		{call{name: "Keep", nodes: []api.RopeNode{long, words(4)}, l: filled(most+1, 1)}, answer{nodes: []api.RopeNode{words(4)}, list: filled(most+1, 0)}},
	} {
		x.call.want(t, x.want)
	}
}

// P1: ropes that are as deep as they may be, or share so much that to go all ways through their nodes would have no end.
func TestDeepAndSharedRopes(t *testing.T) {
	nothing, twice, moved := []api.RopeNode{words()}, []api.RopeNode{words(1)}, []api.RopeNode{words(upTo(most)...)}
	for i := range 3999 {
		nothing = append(nothing, cat(i, i))
		moved = append(moved, off(i, -1))
		if i < 3979 {
			twice = append(twice, off(i, 1))
		} else {
			twice = append(twice, cat(i, i))
		}
	}
	last := upTo(most)
	for i := range last {
		last[i] -= 3999
	}
	tower := append(twice[:1:1], nothing[1:21]...)
	for _, x := range []example{
		{call{name: "Len", nodes: nothing}, answer{}},
		{call{name: "Flat", nodes: nothing}, answer{}},
		{call{name: "Depth", nodes: nothing}, answer{number: 4000}},
		{call{name: "Gather", nodes: nothing}, answer{}},
		{call{name: "Cost", nodes: nothing}, no(api.ErrRange)},
		{call{name: "Even", nodes: nothing[:3999]}, grown(3999, append(nothing[:3999:3999], words())...)},
		{call{name: "Keep", nodes: nothing, l: list(3998)}, answer{nodes: nothing[:3999], list: list(3998)}},
		{call{name: "Len", nodes: twice}, answer{number: most}},
		{call{name: "Flat", nodes: twice}, answer{list: filled(most, 3980)}},
		{call{name: "Depth", nodes: twice}, answer{number: 4000}},
		{call{name: "Gather", nodes: twice, l: list(0, most-1)}, answer{list: list(3980, 3980)}},
		{call{name: "Gather", nodes: twice, l: upTo(most)}, answer{list: filled(most, 3980)}},
		{call{name: "Cost", nodes: twice, b: most - 1}, answer{number: 4000}},
		{call{name: "Even", nodes: twice}, no(api.ErrFull)},
		{call{name: "Flat", nodes: tower}, answer{list: filled(most, 1)}},
		{call{name: "Even", nodes: tower}, no(api.ErrFull)},
		{call{name: "Flat", nodes: moved}, answer{list: last}},
		{call{name: "Gather", nodes: moved, l: upTo(most)}, answer{list: last}},
		{call{name: "Gather", nodes: moved, l: list(4000)}, answer{list: list(1)}},
		{call{name: "Even", nodes: moved[:3999]}, grown(3999, append(moved[:3999:3999], off(0, -3998))...)},
	} {
		x.a = len(x.nodes) - 1
		x.call.want(t, x.want)
	}
}
