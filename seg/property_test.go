package seg_test

import (
	"math"
	"math/rand"
	"reflect"
	"slices"
	"strconv"
	"strings"
	"sync"
	"testing"

	"sheafworks/api"
	"sheafworks/seg"
)

// short tells a list, of a long one its beginning.
func short(l []int) string {
	var s strings.Builder
	for i, n := range l {
		if i == 30 {
			return s.String() + " .. (" + strconv.Itoa(len(l)) + ")"
		}
		s.WriteString(" " + strconv.Itoa(n))
	}
	return "[" + s.String() + " ]"
}

// lengths returns some lengths, and all short ones; the same ones each time.
func lengths() [][]int {
	r := rand.New(rand.NewSource(1))
	all := lists(4, 0, 3)
	for range 100 {
		lens := make([]int, r.Intn(30))
		for i := range lens {
			lens[i] = max(0, r.Intn(20)-8)
		}
		all = append(all, lens)
	}
	return all
}

// scattered returns some pools; the same ones each time.
func scattered(many int) []pool {
	r := rand.New(rand.NewSource(2))
	var all []pool
	for range many {
		p := pool{size: r.Intn(100)}
		for range r.Intn(12) {
			start := r.Intn(p.size + 1)
			p.starts = append(p.starts, start)
			p.lens = append(p.lens, r.Intn(min(12, p.size-start)+1))
		}
		all = append(all, p)
	}
	return all
}

// ok returns a list that comes without an error.
func ok(t *testing.T, got []int, err api.Errno) []int {
	t.Helper()
	if err != api.OK {
		t.Fatalf("error %d", err)
	}
	return got
}

// call returns a list that comes without an error, from a function of one list.
func call(t *testing.T, f func([]int) ([]int, api.Errno), l []int) []int {
	t.Helper()
	got, err := f(l)
	return ok(t, got, err)
}

// thereAndBack returns the lengths that come back from what is told of lengths, each with the name of that.
func thereAndBack(t *testing.T, lens []int) map[string][]int {
	t.Helper()
	total, err := seg.Check(lens)
	if err != api.OK {
		t.Fatalf("Check %s: error %d", short(lens), err)
	}
	back := map[string][]int{}
	ofStarts, err := seg.Lengths(call(t, seg.Starts, lens), total)
	back["starts"] = ok(t, ofStarts, err)
	back["heads"] = call(t, seg.OfHeads, call(t, seg.Heads, lens))
	ofOwners, err := seg.OfOwners(call(t, seg.Owners, lens), len(lens))
	back["owners"] = ok(t, ofOwners, err)
	return back
}

// P2.10
func TestThereAndBack(t *testing.T) {
	for _, lens := range lengths() {
		for name, back := range thereAndBack(t, lens) {
			wantList(t, short(lens)+" from "+name, back, api.OK, lens, api.OK)
		}
	}
}

// P2.11
func TestPiecesNestedAgain(t *testing.T) {
	for _, lens := range lengths() {
		for _, n := range list(1, 2, 3, 5, 11, most) {
			pieces, outer, err := seg.Split(lens, n)
			if err != api.OK {
				t.Fatalf("Split %s, %d: error %d", short(lens), n, err)
			}
			nested, err := seg.Nest(outer, pieces)
			wantList(t, "Split "+short(lens)+" and Nest", nested, err, lens, api.OK)
			checkPieces(t, lens, n, pieces, outer)
		}
	}
}

// checkPieces checks that each piece but the last one of its segment is of so many, and that one not of more.
func checkPieces(t *testing.T, lens []int, many int, pieces, outer []int) {
	t.Helper()
	for _, n := range outer {
		for i, piece := range pieces[:n] {
			if piece < 1 || piece > many || i < n-1 && piece != many {
				t.Errorf("Split %s, %d: %s, %s", short(lens), many, short(pieces), short(outer))
			}
		}
		pieces = pieces[n:]
	}
}

// P2.11
func TestNestingIsAssociative(t *testing.T) {
	r := rand.New(rand.NewSource(3))
	for range 300 {
		outer := make([]int, r.Intn(5))
		for i := range outer {
			outer[i] = r.Intn(4)
		}
		middle := make([]int, sumOf(outer))
		for i := range middle {
			middle[i] = r.Intn(4)
		}
		inner := make([]int, sumOf(middle))
		for i := range inner {
			inner[i] = r.Intn(4)
		}
		nest := func(outer, inner []int) []int {
			got, err := seg.Nest(outer, inner)
			return ok(t, got, err)
		}
		first, last := nest(nest(outer, middle), inner), nest(outer, nest(middle, inner))
		wantList(t, "Nest "+short(outer)+short(middle)+short(inner), first, api.OK, last, api.OK)
	}
}

func sumOf(l []int) int {
	total, _ := sums(l)
	return total
}

// checkCompact checks the compact pool of a pool, by its own segments.
func checkCompact(t *testing.T, p pool) {
	t.Helper()
	begin, places, err := seg.Compact(p.starts, p.lens, p.size)
	if err != api.OK {
		t.Fatalf("Compact %s: error %d", p.text(), err)
	}
	was, err := seg.Places(p.starts, p.lens, p.size)
	ok(t, was, err)
	now, err := seg.Places(begin, p.lens, len(places))
	ok(t, now, err)
	var back []int
	reached := map[int]bool{}
	for _, place := range now {
		back = append(back, places[place])
		reached[place] = true
	}
	wantList(t, "led back: "+p.text(), back, api.OK, was, api.OK)
	if len(reached) != len(places) {
		t.Errorf("Compact %s: %d of the places %s are touched", p.text(), len(reached), short(places))
	}
	for i := range was {
		for k := range i {
			if (was[i] == was[k]) != (now[i] == now[k]) {
				t.Errorf("Compact %s: the elements %d and %d", p.text(), k, i)
			}
		}
	}
}

// P2.12
func TestSharedIsKept(t *testing.T) {
	for _, p := range pools() {
		checkCompact(t, p)
	}
	for _, p := range scattered(300) {
		checkCompact(t, p)
	}
}

// P2.13
func TestLengthsAloneShareNothing(t *testing.T) {
	for _, lens := range lengths() {
		starts, total := call(t, seg.Starts, lens), sumOf(lens)
		deep, err := seg.Depth(starts, lens, total)
		if err != api.OK || deep > 1 || deep == 0 && total > 0 {
			t.Errorf("Depth of %s: %d, error %d", short(lens), deep, err)
		}
		all := make([]int, total)
		for i := range all {
			all[i] = i
		}
		begin, places, err := seg.Compact(starts, lens, total)
		wantList(t, "Compact (begin) of "+short(lens), begin, err, starts, api.OK)
		wantList(t, "Compact (places) of "+short(lens), places, err, all, api.OK)
		places, err = seg.Places(starts, lens, total)
		wantList(t, "Places of "+short(lens), places, err, all, api.OK)
	}
}

// answer is what a call returned.
type answer struct {
	lists  [][]int
	spans  []api.SegSpan
	number int
	err    api.Errno
}

// answersOfOne calls every function of one list, and a number.
func answersOfOne(a []int, n int) []answer {
	total, err := seg.Check(a)
	all := []answer{{number: total, err: err}}
	for _, f := range []func([]int) ([]int, api.Errno){seg.Starts, seg.Heads, seg.OfHeads, seg.Owners} {
		got, err := f(a)
		all = append(all, answer{lists: [][]int{got}, err: err})
	}
	for _, f := range []func([]int, int) ([]int, api.Errno){seg.Lengths, seg.OfOwners} {
		got, err := f(a, n)
		all = append(all, answer{lists: [][]int{got}, err: err})
	}
	pieces, outer, err := seg.Split(a, n)
	return append(all, answer{lists: [][]int{pieces, outer}, err: err})
}

// answersOfTwo calls every function of two lists, and a number.
func answersOfTwo(a, b []int, n int) []answer {
	total, err := seg.Shared(a, b, n)
	all := []answer{{number: total, err: err}}
	deep, err := seg.Depth(a, b, n)
	all = append(all, answer{number: deep, err: err})
	spans, err := seg.Touched(a, b, n)
	all = append(all, answer{spans: spans, err: err})
	places, err := seg.Places(a, b, n)
	all = append(all, answer{lists: [][]int{places}, err: err})
	begin, places, err := seg.Compact(a, b, n)
	all = append(all, answer{lists: [][]int{begin, places}, err: err})
	nested, err := seg.Nest(a, b)
	return append(all, answer{lists: [][]int{nested}, err: err})
}

// same reports whether answers are the same; a nil list is an empty one.
func same(a, b []answer) bool {
	return slices.EqualFunc(a, b, func(x, y answer) bool {
		return x.number == y.number && x.err == y.err && slices.Equal(x.spans, y.spans) && slices.EqualFunc(x.lists, y.lists, slices.Equal)
	})
}

// spoil overwrites all lists of answers, with the room behind them.
func spoil(all []answer) {
	for _, x := range all {
		for _, l := range x.lists {
			l = l[:cap(l)]
			for i := range l {
				l[i] = -7
			}
		}
		clear(x.spans[:cap(x.spans)])
	}
}

// anyLists are lists of all kinds of numbers.
func anyLists() [][]int {
	return [][]int{nil, {}, {0}, {1}, {-1}, {0, 0}, {2, 0, 3}, {0, 2, 2}, {1, 0, 2, 0, 0, 0}, {0, 0, 2, 2, 2}, {3, 2, 0}, {1, 3, 0}, {5, 4, 3}, {1, 1},
		{most}, {most + 1}, {1, most}, {math.MaxInt}, {math.MinInt}, {math.MaxInt, math.MaxInt, 2}, {math.MinInt, math.MinInt}, {math.MaxInt, math.MinInt, 1}}
}

// askAgain checks that what is asked again is answered the same, whatever was done with the first answers.
func askAgain(t *testing.T, ask func() []answer) {
	t.Helper()
	first, again := ask(), ask()
	spoil(first)
	if third := ask(); !same(again, third) {
		t.Errorf("answered %v, then %v", again, third)
	}
}

// P1, P13 and P2.9: no call panics, none changes or keeps a list that it is given, and each is answered the same, also at the same time.
func TestAnyArgumentsAgain(t *testing.T) {
	var wait sync.WaitGroup
	all := anyLists()
	numbers := []int{0, 1, 2, 5, 6, most, -1, most + 1, math.MaxInt, math.MinInt}
	for _, a := range all {
		wait.Go(func() {
			for _, n := range numbers {
				askAgain(t, func() []answer { return answersOfOne(a, n) })
				for _, b := range all {
					askAgain(t, func() []answer { return answersOfTwo(a, b, n) })
				}
			}
		})
	}
	wait.Wait()
	if !reflect.DeepEqual(all, anyLists()) {
		t.Errorf("arguments have changed")
	}
}

// P2.9: lists of one answer share no memory.
func TestListsOfAnAnswerAreApart(t *testing.T) {
	pieces, outer, err := seg.Split(list(5, 0, 2), 2)
	ok(t, append(pieces, -7), err)
	spoil([]answer{{lists: [][]int{pieces}}})
	wantList(t, "Split (outer)", outer, err, list(3, 0, 1), api.OK)
	begin, places, err := seg.Compact(example.starts, example.lens, example.size)
	spoil([]answer{{lists: [][]int{begin}}})
	wantList(t, "Compact (places)", places, err, list(1, 2, 3, 4), api.OK)
}
