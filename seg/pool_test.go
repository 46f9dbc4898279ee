package seg_test

import (
	"math"
	"slices"
	"testing"

	"sheafworks/api"
	"sheafworks/seg"
)

// pool is shared segments of a pool.
type pool struct {
	starts, lens []int
	size         int
}

// example is the pool of the chapter's examples.
var example = pool{list(1, 3, 0), list(3, 2, 0), 6}

// text tells a pool.
func (p pool) text() string {
	return short(p.starts) + ", " + short(p.lens) + ", " + short(list(p.size))
}

// depths is what the chapter says of the places: of each one how many segments it is an element of.
func (p pool) depths() []int {
	deep := filled(p.size, 0)
	for i, start := range p.starts {
		for k := range p.lens[i] {
			deep[start+k]++
		}
	}
	return deep
}

// touched is what the chapter says of the touched places, one by one.
func (p pool) touched() []int {
	var places []int
	for place, deep := range p.depths() {
		if deep > 0 {
			places = append(places, place)
		}
	}
	return places
}

// elements is what the chapter says of the places of all elements.
func (p pool) elements() []int {
	var places []int
	for i, start := range p.starts {
		for k := range p.lens[i] {
			places = append(places, start+k)
		}
	}
	return places
}

// begin is what the chapter says of where segments begin in the compact pool.
func (p pool) begin() []int {
	var begin []int
	for _, start := range p.starts {
		ahead := 0
		for _, place := range p.touched() {
			if place < start {
				ahead++
			}
		}
		begin = append(begin, ahead)
	}
	return begin
}

// pools returns all pools of at most 5 places with at most 3 segments.
func pools() []pool {
	var all []pool
	for size := range 6 {
		var spans []api.SegSpan
		for start := range size + 1 {
			for n := range size - start + 1 {
				spans = append(spans, api.SegSpan{Start: start, Len: n})
			}
		}
		for _, numbers := range lists(3, 0, len(spans)-1) {
			p := pool{size: size}
			for _, k := range numbers {
				p.starts = append(p.starts, spans[k].Start)
				p.lens = append(p.lens, spans[k].Len)
			}
			all = append(all, p)
		}
	}
	return all
}

// P2.6 to P2.8
func TestPoolExamples(t *testing.T) {
	p := example
	total, err := seg.Shared(p.starts, p.lens, p.size)
	wantNumber(t, "Shared", total, err, 5, api.OK)
	deep, err := seg.Depth(p.starts, p.lens, p.size)
	wantNumber(t, "Depth", deep, err, 2, api.OK)
	spans, err := seg.Touched(p.starts, p.lens, p.size)
	if err != api.OK || !slices.Equal(spans, []api.SegSpan{{Start: 1, Len: 4}}) {
		t.Errorf("Touched: %v, error %d", spans, err)
	}
	places, err := seg.Places(p.starts, p.lens, p.size)
	wantList(t, "Places", places, err, list(1, 2, 3, 3, 4), api.OK)
	begin, places, err := seg.Compact(p.starts, p.lens, p.size)
	wantList(t, "Compact (begin)", begin, err, list(0, 2, 0), api.OK)
	wantList(t, "Compact (places)", places, err, list(1, 2, 3, 4), api.OK)
}

// checkPool checks all functions of a pool that is right.
func checkPool(t *testing.T, p pool) {
	t.Helper()
	total, err := seg.Shared(p.starts, p.lens, p.size)
	wantNumber(t, "Shared "+p.text(), total, err, len(p.elements()), api.OK)
	deep, err := seg.Depth(p.starts, p.lens, p.size)
	wantNumber(t, "Depth "+p.text(), deep, err, slices.Max(append(p.depths(), 0)), api.OK)
	places, err := seg.Places(p.starts, p.lens, p.size)
	wantList(t, "Places "+p.text(), places, err, p.elements(), api.OK)
	begin, places, err := seg.Compact(p.starts, p.lens, p.size)
	wantList(t, "Compact (begin) "+p.text(), begin, err, p.begin(), api.OK)
	wantList(t, "Compact (places) "+p.text(), places, err, p.touched(), api.OK)
	spans, err := seg.Touched(p.starts, p.lens, p.size)
	wantList(t, "Touched "+p.text(), inSpans(spans), err, p.touched(), api.OK)
	checkApart(t, "Touched "+p.text(), spans)
}

// inSpans returns the places of spans.
func inSpans(spans []api.SegSpan) []int {
	var places []int
	for _, span := range spans {
		for k := range span.Len {
			places = append(places, span.Start+k)
		}
	}
	return places
}

// checkApart checks that no span is empty, and that none stands at the side of the one ahead of it.
func checkApart(t *testing.T, call string, spans []api.SegSpan) {
	t.Helper()
	for i, span := range spans {
		if span.Len < 1 || i > 0 && span.Start <= spans[i-1].Start+spans[i-1].Len {
			t.Errorf("%s: %v", call, spans)
		}
	}
}

// P2.6 to P2.8
func TestPoolsByTheirDefinitions(t *testing.T) {
	for _, p := range pools() {
		checkPool(t, p)
	}
	for _, p := range scattered(200) {
		checkPool(t, p)
	}
}

// badPools are lists and sizes that are no shared segments, with their errors.
var badPools = []struct {
	name string
	p    pool
	err  api.Errno
}{
	{"5, 2, 6", pool{list(5), list(2), 6}, api.ErrRange},
	{"0 1, 1, 6", pool{list(0, 1), list(1), 6}, api.ErrArg},
	{"0, 1 1, 6", pool{list(0), list(1, 1), 6}, api.ErrArg},
	{"nothing, 1, -1", pool{nil, list(1), -1}, api.ErrArg},
	{"-1, 1 1, 6", pool{list(-1), list(1, 1), 6}, api.ErrArg},
	{"too many starts", pool{filled(most+1, 0), nil, 6}, api.ErrLong},
	{"too many lengths", pool{nil, filled(most+1, 0), 6}, api.ErrLong},
	{"too many segments", pool{filled(most+1, -1), filled(most+1, -1), -1}, api.ErrLong},
	{"no size", pool{nil, nil, -1}, api.ErrRange},
	{"no size at all", pool{nil, nil, math.MinInt}, api.ErrRange},
	{"a size too great", pool{list(0), list(0), most + 1}, api.ErrRange},
	{"a size much too great", pool{nil, nil, math.MaxInt}, api.ErrRange},
	{"a start below 0", pool{list(-1), list(0), 6}, api.ErrRange},
	{"a start below 0 and a length", pool{list(-1), list(2), 6}, api.ErrRange},
	{"a length below 0", pool{list(1), list(-1), 6}, api.ErrRange},
	{"a start and a length at the pool's end", pool{list(6), list(1), 6}, api.ErrRange},
	{"a start behind the pool", pool{list(7), list(0), 6}, api.ErrRange},
	{"an empty pool", pool{list(0), list(1), 0}, api.ErrRange},
	{"great numbers", pool{list(math.MaxInt), list(math.MaxInt), 6}, api.ErrRange},
	{"numbers whose sum overflows to 0", pool{list(math.MaxInt, 1), list(1, math.MaxInt), most}, api.ErrRange},
	{"numbers whose sum overflows", pool{list(math.MinInt), list(math.MinInt), most}, api.ErrRange},
	{"a great start and a length far below 0", pool{list(math.MaxInt), list(math.MinInt), most}, api.ErrRange},
	{"the last segment alone", pool{list(0, 0, 2), list(6, 0, 5), 6}, api.ErrRange},
	{"one too much together", pool{list(0, 3), list(most, 1), most}, api.ErrFull},
	{"much too much together", pool{filled(5, 0), filled(5, most), most}, api.ErrFull},
	{"too much ahead of one that is out of the pool", pool{list(0, 0, -1), list(most, most, 1), most}, api.ErrRange},
}

// P2.6
func TestPoolErrorsInOrder(t *testing.T) {
	for _, x := range badPools {
		total, err := seg.Shared(x.p.starts, x.p.lens, x.p.size)
		wantNumber(t, "Shared: "+x.name, total, err, 0, x.err)
		deep, err := seg.Depth(x.p.starts, x.p.lens, x.p.size)
		wantNumber(t, "Depth: "+x.name, deep, err, 0, x.err)
		spans, err := seg.Touched(x.p.starts, x.p.lens, x.p.size)
		if err != x.err || len(spans) != 0 {
			t.Errorf("Touched: %s: %v, error %d; want the error %d", x.name, spans, err, x.err)
		}
		places, err := seg.Places(x.p.starts, x.p.lens, x.p.size)
		wantList(t, "Places: "+x.name, places, err, nil, x.err)
		begin, places, err := seg.Compact(x.p.starts, x.p.lens, x.p.size)
		wantList(t, "Compact (begin): "+x.name, begin, err, nil, x.err)
		wantList(t, "Compact (places): "+x.name, places, err, nil, x.err)
	}
}

// P2.6 to P2.8: as many segments, elements and places as there may be.
func TestPoolsAtTheLimits(t *testing.T) {
	numbers := make([]int, most)
	for i := range numbers {
		numbers[i] = i
	}
	for _, x := range []struct {
		name                   string
		p                      pool
		total, deep            int
		spans                  []api.SegSpan
		places, begin, compact []int
	}{
		{"one of all", pool{list(0), list(most), most}, most, 1, []api.SegSpan{{Start: 0, Len: most}}, numbers, list(0), numbers},
		{"all of one", pool{numbers, filled(most, 1), most}, most, 1, []api.SegSpan{{Start: 0, Len: most}}, numbers, numbers, numbers},
		{"all the last place", pool{filled(most, most-1), filled(most, 1), most}, most, most, []api.SegSpan{{Start: most - 1, Len: 1}}, filled(most, most-1), filled(most, 0), list(most - 1)},
		{"all empty, at the end", pool{filled(most, most), filled(most, 0), most}, 0, 0, nil, nil, filled(most, 0), nil},
		{"all empty, of an empty pool", pool{filled(most, 0), filled(most, 0), 0}, 0, 0, nil, nil, filled(most, 0), nil},
		{"none", pool{nil, nil, most}, 0, 0, nil, nil, nil, nil},
	} {
		total, err := seg.Shared(x.p.starts, x.p.lens, x.p.size)
		wantNumber(t, "Shared: "+x.name, total, err, x.total, api.OK)
		deep, err := seg.Depth(x.p.starts, x.p.lens, x.p.size)
		wantNumber(t, "Depth: "+x.name, deep, err, x.deep, api.OK)
		spans, err := seg.Touched(x.p.starts, x.p.lens, x.p.size)
		if err != api.OK || !slices.Equal(spans, x.spans) {
			t.Errorf("Touched: %s: %v, error %d", x.name, spans[:min(9, len(spans))], err)
		}
		places, err := seg.Places(x.p.starts, x.p.lens, x.p.size)
		wantList(t, "Places: "+x.name, places, err, x.places, api.OK)
		begin, compact, err := seg.Compact(x.p.starts, x.p.lens, x.p.size)
		wantList(t, "Compact (begin): "+x.name, begin, err, x.begin, api.OK)
		wantList(t, "Compact (places): "+x.name, compact, err, x.compact, api.OK)
	}
}
