package rope_test

import (
	"math/bits"
	"reflect"
	"slices"
	"sync"
	"testing"

	"sheafworks/api"
)

// stores returns all valid stores of so many nodes, of some words, parts and numbers.
func stores(many int) [][]api.RopeNode {
	if many == 0 {
		return [][]api.RopeNode{nil}
	}
	var all [][]api.RopeNode
	for _, nodes := range stores(many - 1) {
		next := []api.RopeNode{words(), words(4), words(1, high, 3)}
		for a := range nodes {
			for b := range nodes {
				next = append(next, cat(a, b))
			}
			long := lengthValue(nodes, a)
			for from := range long + 1 {
				for n := range long - from + 1 {
					next = append(next, part(a, from, n))
				}
			}
			next = append(next, off(a, 0), off(a, 1), off(a, low))
		}
		for _, n := range next {
			all = append(all, append(slices.Clone(nodes), n))
		}
	}
	return all
}

// P6.1 to P6.6: all small stores.
func TestSmallStoresByTheDefinitions(t *testing.T) {
	for many := range 4 {
		for _, nodes := range stores(many) {
			a := many - 1 // the others are last in smaller stores
			for _, name := range names {
				call{name: name, nodes: nodes, a: a, l: list(a)}.check(t)
			}
			for b := -1; b < 8; b++ {
				call{name: "Cost", nodes: nodes, a: a, b: b}.check(t)
				call{name: "Gather", nodes: nodes, a: a, l: list(b, 0)}.check(t)
				call{name: "Cat", nodes: nodes, a: a, b: b}.check(t)
				call{name: "Part", nodes: nodes, a: a, b: b, n: 2}.check(t)
				call{name: "Off", nodes: nodes, a: a, n: b}.check(t)
				call{name: "Keep", nodes: nodes, l: list(b, a)}.check(t)
			}
		}
	}
}

// P6.1: nodes of which each field is right or not, behind all small stores.
func TestAnyNodeByTheDefinitions(t *testing.T) {
	fields := list(0, 1, 2, -1)
	valid := 0
	for _, nodes := range stores(2)[:20] {
		for kind := -1; kind < 5; kind++ {
			for i := range 1 << 10 { // two bits for each field
				n := api.RopeNode{Kind: kind, A: fields[i&3], B: fields[i>>2&3], From: fields[i>>4&3], Len: fields[i>>6&3], N: fields[i>>8]}
				for _, n.Words = range [][]int{nil, {}, {1}, {low, high + 1}} {
					c := call{name: "Check", nodes: append(slices.Clone(nodes), n)}
					c.check(t)
					if c.value().err == api.OK {
						valid++
					}
				}
			}
		}
	}
	if valid < 500 {
		t.Errorf("%d are valid: too few to tell", valid)
	}
}

// P6.1 to P6.6: larger stores.
func TestLargerStoresByTheDefinitions(t *testing.T) {
	m := newMaker(1)
	for range 400 {
		nodes := m.nodes(1 + m.Intn(12))
		for a := range nodes {
			long, b := lengthValue(nodes, a), m.Intn(len(nodes))
			for _, c := range []call{
				{name: "Check"}, {name: "Len"}, {name: "Flat"}, {name: "Depth"}, {name: "Even"},
				{name: "Words", l: m.words(9)}, {name: "Cat", b: b}, {name: "Part", b: m.Intn(long + 1), n: m.Intn(long + 1)}, {name: "Off", n: m.word()},
				{name: "Cost", b: m.Intn(long + 1)}, {name: "Gather", l: upTo(long)}, {name: "Gather", l: list(m.Intn(long + 1))},
				{name: "Keep", l: list(a)}, {name: "Keep", l: list(b, a, m.Intn(len(nodes)), b)},
			} {
				c.nodes, c.a = nodes, a
				c.check(t)
			}
		}
	}
}

// P6.1: larger stores that are spoilt.
func TestSpoiltStoresByTheDefinitions(t *testing.T) {
	m := newMaker(2)
	valid, others := 0, 0
	for range 20000 {
		nodes := m.spoilt(m.nodes(1 + m.Intn(6)))
		call{name: "Check", nodes: nodes}.check(t)
		call{name: names[m.Intn(len(names))], nodes: nodes, a: m.Intn(len(nodes)+1) - 1}.check(t)
		if validValue(nodes) {
			valid++
		} else {
			others++
		}
	}
	if valid < 1000 || others < 1000 {
		t.Errorf("%d are valid, %d are not: too few to tell", valid, others)
	}
}

// answered returns the answer to a call that has no error.
func (c call) answered(t *testing.T) answer {
	t.Helper()
	x := c.answer()
	if x.err != api.OK {
		t.Fatalf("%s %d of %v: error %d", c.name, c.a, c.nodes, x.err)
	}
	return x
}

// flat returns the words of a rope.
func flat(t *testing.T, nodes []api.RopeNode, a int) []int {
	t.Helper()
	return call{name: "Flat", nodes: nodes, a: a}.answered(t).list
}

// wantFlat checks the words of a rope.
func wantFlat(t *testing.T, nodes []api.RopeNode, a int, want []int) {
	t.Helper()
	if got := flat(t, nodes, a); !slices.Equal(got, want) {
		t.Errorf("the rope %d of %v has the words %v; want %v", a, nodes, got, want)
	}
}

// P6.8
func TestMadeRopes(t *testing.T) {
	m := newMaker(3)
	for range 200 {
		nodes := m.nodes(1 + m.Intn(12))
		var ropes [][]int
		for a := range nodes {
			ropes = append(ropes, flat(t, nodes, a))
		}
		for a := range nodes {
			b, n, l := m.Intn(len(nodes)), m.word(), m.words(9)
			from := m.Intn(len(ropes[a]) + 1)
			many := m.Intn(len(ropes[a]) - from + 1)
			var moved []int
			for _, k := range ropes[a] {
				moved = append(moved, wrapped(k+n))
			}
			for _, x := range []example{
				{call{name: "Words", l: l}, answer{list: l}},
				{call{name: "Cat", a: a, b: b}, answer{list: slices.Concat(ropes[a], ropes[b])}},
				{call{name: "Part", a: a, b: from, n: many}, answer{list: ropes[a][from : from+many]}},
				{call{name: "Off", a: a, n: n}, answer{list: moved}},
				{call{name: "Even", a: a}, answer{list: ropes[a]}},
			} {
				x.nodes = nodes
				made := x.answered(t)
				wantFlat(t, made.nodes, made.number, x.want.list)
				for old, l := range ropes {
					wantFlat(t, made.nodes, old, l)
				}
				if x.name != "Even" && (len(made.nodes) != len(nodes)+1 || made.number != len(nodes)) {
					t.Errorf("%s: the rope %d of %d; there were %d", x.name, made.number, len(made.nodes), len(nodes))
				}
			}
		}
	}
}

// P6.9
func TestPlacesOfRopes(t *testing.T) {
	m := newMaker(4)
	for range 200 {
		nodes := m.nodes(1 + m.Intn(20))
		for a := range nodes {
			long := call{name: "Len", nodes: nodes, a: a}.answered(t).number
			depth := call{name: "Depth", nodes: nodes, a: a}.answered(t).number
			wantFlat(t, nodes, a, call{name: "Gather", nodes: nodes, a: a, l: upTo(long)}.answered(t).list)
			for place := range long {
				if cost := (call{name: "Cost", nodes: nodes, a: a, b: place}).answered(t).number; cost > depth || cost < 1 {
					t.Errorf("the cost of the place %d of the rope %d of %v is %d, its depth %d", place, a, nodes, cost, depth)
				}
			}
		}
	}
}

// P6.10
func TestBalancedRopes(t *testing.T) {
	m := newMaker(5)
	for range 300 {
		nodes := m.nodes(1 + m.Intn(20))
		for a := range nodes {
			even := call{name: "Even", nodes: nodes, a: a}.answered(t)
			wantFlat(t, even.nodes, even.number, flat(t, nodes, a))
			depth := call{name: "Depth", nodes: even.nodes, a: even.number}.answered(t).number
			if pieces := len(piecesValue(nodes, a)); depth > bits.Len(uint(max(pieces-1, 0)))+3 {
				t.Errorf("the rope %d of %v of %d pieces is balanced to the depth %d", a, nodes, pieces, depth)
			}
			again := call{name: "Even", nodes: even.nodes, a: even.number}.answered(t)
			wantFlat(t, again.nodes, again.number, flat(t, nodes, a))
			if deeper := (call{name: "Depth", nodes: again.nodes, a: again.number}).answered(t).number; deeper > depth {
				t.Errorf("the rope %d of %v is balanced to the depth %d, and again to %d", a, nodes, depth, deeper)
			}
		}
	}
}

// P6.11
func TestKeptRopes(t *testing.T) {
	m := newMaker(6)
	for range 1000 {
		nodes := m.nodes(1 + m.Intn(20))
		var ropes []int
		for range m.Intn(5) {
			ropes = append(ropes, m.Intn(len(nodes)))
		}
		kept := call{name: "Keep", nodes: nodes, l: ropes}.answered(t)
		set := map[int]bool{}
		for i, a := range kept.list {
			wantFlat(t, kept.nodes, a, flat(t, nodes, ropes[i]))
			needValue(kept.nodes, a, set)
		}
		if len(set) != len(kept.nodes) || len(kept.list) != len(ropes) {
			t.Errorf("kept for %v of %v: %v, of which %d are needed", ropes, nodes, kept, len(set))
		}
		call{name: "Keep", nodes: kept.nodes, l: kept.list}.want(t, kept)
		all := upTo(len(kept.nodes))
		call{name: "Keep", nodes: kept.nodes, l: all}.want(t, answer{nodes: kept.nodes, list: all})
	}
}

// spoil overwrites lists of an answer, with the room behind them.
func (x answer) spoil() {
	spoilList(x.list)
	for _, n := range x.nodes {
		spoilList(n.Words)
	}
	nodes := x.nodes[:cap(x.nodes)]
	for i := range nodes {
		nodes[i] = api.RopeNode{Kind: -77}
	}
}

func spoilList(l []int) {
	l = l[:cap(l)]
	for i := range l {
		l[i] = -77
	}
}

// questions returns calls of all functions, right and wrong; those of the same seed are the same.
func questions(seed int64) []call {
	m := newMaker(seed)
	var all []call
	for range 40 {
		nodes := m.nodes(1 + m.Intn(9))
		if m.Intn(4) == 0 {
			nodes = m.spoilt(nodes)
		}
		for _, name := range names {
			numbers := append(list(0, 0, 1, 1, 2, 3, -1, 9), odd...)
			pick := func() int { return numbers[m.Intn(len(numbers))] }
			all = append(all, call{name: name, nodes: nodes}, call{name: name, nodes: nodes, a: len(nodes) - 1, b: 1, n: 1, l: list(0, 0, 0)})
			for range 6 {
				all = append(all, call{name: name, nodes: nodes, a: pick(), b: pick(), n: pick(), l: list(0, pick())})
			}
		}
	}
	for _, nodes := range badStores() {
		all = append(all, call{name: names[m.Intn(len(names))], nodes: nodes, l: list(1)})
	}
	return all
}

// P1, P13 and P6.7: no call changes what it is given or keeps it, and each is answered the same again, whatever was done with the first answers, also at the same time.
func TestAnyCallAgain(t *testing.T) {
	var wait sync.WaitGroup
	asked := questions(7)
	for _, c := range asked {
		for range 2 {
			wait.Go(func() {
				first, again := c.answer(), c.answer()
				first.spoil()
				if third := c.answer(); !reflect.DeepEqual(again, third) {
					t.Errorf("%s: answered %v, then %v", c.name, again, third)
				}
			})
		}
	}
	wait.Wait()
	if !reflect.DeepEqual(asked, questions(7)) {
		t.Error("arguments have changed")
	}
}

// P6.2: with an error there are no nodes and no numbers.
func TestNothingWithAnError(t *testing.T) {
	wrong := 0
	for _, c := range questions(8) {
		if x := c.answer(); x.err != api.OK {
			wrong++
			c.want(t, no(x.err))
		}
	}
	if wrong < 500 {
		t.Errorf("%d with an error: too few to tell", wrong)
	}
}

// P6.7: what is changed after a call changes no answer, and no two lists of an answer share memory, even if lists that were given do.
func TestAnswersAreApart(t *testing.T) {
	for _, c := range []call{{name: "Words"}, {name: "Cat", a: 2, b: 3}, {name: "Part", a: 2, b: 1, n: 3}, {name: "Off", a: 2, n: 4}, {name: "Even", a: 3}, {name: "Keep", l: list(0, 1, 2, 3)}} {
		shared := list(5, 6, 7)
		c.nodes = []api.RopeNode{words(shared...), words(shared[1:]...), cat(0, 1), part(2, 2, 3), words(shared[2:]...)}
		if c.name == "Words" {
			c.l = shared[:2]
		}
		got, want := c.answered(t), c.value()
		want.nodes = slices.Clone(want.nodes)
		for i, n := range want.nodes {
			want.nodes[i].Words = slices.Clone(n.Words)
		}
		spoilList(shared)
		clear(c.nodes[:cap(c.nodes)])
		if !got.isSame(want) {
			t.Errorf("%s: %v, when the arguments have changed; want %v", c.name, got, want)
		}
		for i := range got.nodes {
			spoilList(got.nodes[i].Words)
			if others := slices.Delete(slices.Clone(got.nodes), i, i+1); !areSame(others, slices.Delete(slices.Clone(want.nodes), i, i+1)) {
				t.Errorf("%s: the words of the node %d are shared: %v", c.name, i, got.nodes)
			}
			copy(got.nodes[i].Words, want.nodes[i].Words)
		}
	}
	given := []api.RopeNode{words(5, 6, 7)}
	for _, c := range []call{{name: "Flat", nodes: given}, {name: "Gather", nodes: given, l: list(0, 1, 2)}, {name: "Keep", nodes: given, l: filled(3, 0)}} {
		spoilList(c.answered(t).list)
		c.check(t)
	}
	wantFlat(t, given, 0, list(5, 6, 7))
}
