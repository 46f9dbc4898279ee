package rank_test

import (
	"math"
	"math/rand"
	"slices"
	"testing"

	"sheafworks/api"
)

// list writes a list of numbers; list() is the list of none.
func list(numbers ...int) []int { return numbers }

// several writes lists.
func several(l ...[]int) [][]int { return l }

// filled returns a list of one number, so many times.
func filled(many, n int) []int { return slices.Repeat(list(n), many) }

// upTo returns the numbers from 0 on, so many.
func upTo(many int) []int {
	numbers := make([]int, many)
	for i := range numbers {
		numbers[i] = i
	}
	return numbers
}

// turned returns a list the other way round.
func turned(l []int) []int {
	l = slices.Clone(l)
	slices.Reverse(l)
	return l
}

// lists returns all lists of at most so many of some numbers.
func lists(many int, of ...int) [][]int {
	all := several(nil)
	from := 0
	for range many {
		to := len(all)
		for _, l := range all[from:to] {
			for _, n := range of {
				all = append(all, append(slices.Clone(l), n))
			}
		}
		from = to
	}
	return all
}

// example is a call with its answer.
type example struct {
	call call
	want answer
}

// got writes an answer of a list, both one of two lists, and no one of an error.
func got(l []int) answer { return answer{first: l} }

func both(first, second []int) answer { return answer{first: first, second: second} }

func no(err api.Errno) answer { return answer{err: err} }

// checkAll checks examples.
func checkAll(t *testing.T, all ...example) {
	t.Helper()
	for _, x := range all {
		x.call.want(t, x.want)
	}
}

// P7.1 to P7.6: the examples of the chapter.
func TestExamples(t *testing.T) {
	words, lens := list(2, 1, 4, 3, 3), list(2, 0, 3)
	checkAll(t, []example{
		{call{name: "Check", l: list(2, 0, 1)}, answer{}},
		{call{name: "Check", l: list(0, 0)}, no(api.ErrArg)},
		{call{name: "Inverse", l: list(2, 0, 1)}, got(list(1, 2, 0))},
		{call{name: "Compose", l: list(2, 0, 1), by: list(1, 2, 0)}, got(list(0, 1, 2))},
		{call{name: "Split", l: list(1, 0, 0, 5), by: list(4)}, got(list(2, 0, 1, 3))},
		{call{name: "Split", l: list(1, 0, 1, 0), by: list(2, 2)}, got(list(1, 0, 3, 2))},
		{call{name: "Order", l: list(5, -1, 5, 2), by: list(4)}, got(list(2, 0, 3, 1))},
		{call{name: "Passes", l: list(5, -1, 5, 2), by: list(4), bits: 1}, got(list(1, 2, 3, 0))},
		{call{name: "Order", l: words, by: lens}, got(list(1, 0, 4, 2, 3))},
		{call{name: "Ranks", l: words, by: lens}, got(list(1, 0, 1, 0, 0))},
		{call{name: "Firsts", l: words, by: lens}, both(list(0, 1, 2, 3), list(2, 0, 2))},
		{call{name: "Merge", l: list(1, 3, 3), by: list(2, 3, 4)}, both(list(0, 2, 3), list(1, 4, 5))},
		{call{name: "Merge", l: list(2, 1)}, no(api.ErrOrder)},
		{call{name: "Split", l: list(1), by: list(0)}, no(api.ErrState)},
		{call{name: "Split", l: list(1)}, no(api.ErrState)},
		{call{name: "Order", l: list(1), by: list(2, -1)}, no(api.ErrState)},
	}...)
}

// P7.1 to P7.6: of nothing, and of one element.
func TestNothingAndOne(t *testing.T) {
	for _, empty := range several(nil, list()) {
		checkAll(t, []example{
			{call{name: "Check", l: empty}, answer{}},
			{call{name: "Check", l: list(0)}, answer{}},
			{call{name: "Check", l: list(1)}, no(api.ErrArg)},
			{call{name: "Check", l: list(-1)}, no(api.ErrArg)},
			{call{name: "Inverse", l: empty}, got(nil)},
			{call{name: "Inverse", l: list(0)}, got(list(0))},
			{call{name: "Compose", l: empty, by: empty}, got(nil)},
			{call{name: "Compose", l: list(0), by: list(0)}, got(list(0))},
			{call{name: "Compose", l: list(0), by: empty}, no(api.ErrState)},
			{call{name: "Compose", l: empty, by: list(0)}, no(api.ErrState)},
			{call{name: "Merge", l: empty, by: empty}, both(nil, nil)},
			{call{name: "Merge", l: list(5), by: empty}, both(list(0), nil)},
			{call{name: "Merge", l: empty, by: list(5)}, both(nil, list(0))},
			{call{name: "Merge", l: list(5), by: list(5)}, both(list(0), list(1))},
			{call{name: "Firsts", l: empty, by: empty}, both(nil, nil)},
			{call{name: "Firsts", l: empty, by: list(0, 0)}, both(nil, list(0, 0))},
			{call{name: "Firsts", l: list(5), by: list(0, 1, 0)}, both(list(0), list(0, 1, 0))},
			{call{name: "Passes", l: list(5), by: list(0, 1, 0), bits: 33}, no(api.ErrRange)},
		}...)
		for _, name := range []string{"Split", "Passes", "Order", "Ranks"} {
			for _, bits := range list(0, 1, 32) {
				checkAll(t, []example{
					{call{name, empty, empty, bits}, got(nil)},
					{call{name, empty, list(0, 0), bits}, got(nil)},
					{call{name, list(5), list(1), bits}, got(list(0))},
					{call{name, list(5), list(0, 1, 0), bits}, got(list(0))},
					{call{name, list(5), empty, bits}, no(api.ErrState)},
					{call{name, empty, list(1), bits}, no(api.ErrState)},
				}...)
			}
		}
	}
}

// P7.4 to P7.6: words at the edges, flags of all kinds, and the highest bit.
func TestEdges(t *testing.T) {
	words := list(high, 0, -1, low, 0)
	checkAll(t, []example{
		{call{name: "Split", l: list(low, 0, high, 0, -1), by: list(5)}, got(list(2, 0, 3, 1, 4))},
		{call{name: "Split", l: list(0, 0, 2, 2), by: list(2, 2)}, got(list(0, 1, 2, 3))},
		{call{name: "Order", l: words, by: list(5)}, got(list(4, 2, 1, 0, 3))},
		{call{name: "Order", l: words, by: list(0, 2, 0, 3, 0)}, got(list(1, 0, 3, 2, 4))},
		{call{name: "Passes", l: words, by: list(5), bits: 32}, got(list(4, 2, 1, 0, 3))},
		{call{name: "Passes", l: words, by: list(5), bits: 0}, got(list(0, 1, 2, 3, 4))},
		// Without the highest bit of the key, -1 is as high, and 0 as low.
		{call{name: "Passes", l: words, by: list(5), bits: 31}, got(list(3, 0, 4, 1, 2))},
		{call{name: "Passes", l: list(3, 2, 1, 0), by: list(4), bits: 1}, got(list(2, 0, 3, 1))},
		{call{name: "Passes", l: list(3, 2, 1, 0), by: list(4), bits: 2}, got(list(3, 2, 1, 0))},
		{call{name: "Passes", l: list(7, 3, 1, 0), by: list(4), bits: 2}, got(list(2, 3, 1, 0))},
		{call{name: "Ranks", l: words, by: list(5)}, got(list(3, 2, 1, 0, 2))},
		{call{name: "Ranks", l: words, by: list(1, 4)}, got(list(0, 2, 1, 0, 2))},
		{call{name: "Ranks", l: list(4, 4, 4, 4), by: list(2, 2)}, got(list(0, 0, 0, 0))},
		{call{name: "Firsts", l: words, by: list(5)}, both(list(0, 1, 2, 3), list(4))},
		{call{name: "Firsts", l: list(4, 4, 4, 4), by: list(2, 0, 2)}, both(list(0, 2), list(1, 0, 1))},
		{call{name: "Firsts", l: list(1, 2, 1, 3, 2, 4), by: list(6)}, both(list(0, 1, 3, 5), list(4))},
		{call{name: "Merge", l: list(low, 0, high), by: list(low, high)}, both(list(0, 2, 3), list(1, 4))},
		{call{name: "Merge", l: list(7, 8), by: list(1, 2)}, both(list(2, 3), list(0, 1))},
		{call{name: "Merge", l: list(3, 3), by: list(3, 3)}, both(list(0, 1), list(2, 3))},
	}...)
}

// P7.1, P7.2 and P7.5: of several errors the one named first.
func TestErrorsOfPlacesAndMergesInOrder(t *testing.T) {
	long, wild := filled(most+1, high+1), list(2, 1, low-1)
	for _, wrong := range several(list(0, 0), list(1), list(-1, 0), list(0, 2), list(1, 2), list(math.MinInt), list(0, math.MaxInt)) {
		checkAll(t, []example{
			{call{name: "Check", l: wrong}, no(api.ErrArg)},
			{call{name: "Inverse", l: wrong}, no(api.ErrArg)},
			{call{name: "Compose", l: wrong, by: long}, no(api.ErrArg)},
			{call{name: "Compose", l: list(0, 1, 2), by: wrong}, no(api.ErrArg)},
			{call{name: "Compose", l: long, by: wrong}, no(api.ErrLong)},
		}...)
	}
	checkAll(t, []example{
		{call{name: "Check", l: long}, no(api.ErrLong)},
		{call{name: "Inverse", l: long}, no(api.ErrLong)},
		{call{name: "Compose", l: list(0), by: long}, no(api.ErrLong)},
		{call{name: "Compose", l: list(0), by: list(1, 0)}, no(api.ErrState)},
		{call{name: "Compose", l: list(1, 0), by: list(0)}, no(api.ErrState)},
		{call{name: "Merge", l: long}, no(api.ErrLong)},
		{call{name: "Merge", by: long}, no(api.ErrLong)},
		{call{name: "Merge", l: wild, by: filled(most-2, 0)}, no(api.ErrLong)},
		{call{name: "Merge", l: filled(most/2, 0), by: filled(most/2+1, high+1)}, no(api.ErrLong)},
		{call{name: "Merge", l: wild}, no(api.ErrRange)},
		{call{name: "Merge", by: wild}, no(api.ErrRange)},
		{call{name: "Merge", l: list(2, 1), by: list(high + 1)}, no(api.ErrRange)},
		{call{name: "Merge", l: list(math.MaxInt), by: list(2, 1)}, no(api.ErrRange)},
		{call{name: "Merge", l: list(2, 1), by: list(3)}, no(api.ErrOrder)},
		{call{name: "Merge", l: list(3), by: list(2, 2, 1)}, no(api.ErrOrder)},
		{call{name: "Merge", by: list(high, low)}, no(api.ErrOrder)},
	}...)
}

// inSegments are the functions of lists in segments.
var inSegments = []string{"Split", "Passes", "Order", "Ranks", "Firsts"}

// P7.3 and P7.4: of several errors the one named first.
func TestErrorsOfSegmentsInOrder(t *testing.T) {
	long, wild := filled(most+1, high+1), list(2, 1, low-1)
	for _, name := range inSegments {
		for _, bits := range list(-1, 33, 32, math.MinInt, math.MaxInt) {
			checkAll(t, []example{
				{call{name, long, wild, bits}, no(api.ErrLong)},
				{call{name, wild, long, bits}, no(api.ErrLong)},
				{call{name, nil, filled(most+1, 0), bits}, no(api.ErrLong)},
				{call{name, wild, list(-1), bits}, no(api.ErrRange)},
				{call{name, wild, list(3), bits}, no(api.ErrRange)},
				{call{name, list(1), list(high + 1), bits}, no(api.ErrRange)},
				{call{name, list(1), list(-1, high+1), bits}, no(api.ErrRange)},
				{call{name, list(1), list(math.MaxInt, math.MinInt), bits}, no(api.ErrRange)},
				{call{name, list(1), list(math.MinInt, math.MinInt, 1), bits}, no(api.ErrRange)},
				{call{name, list(1), list(high, high), bits}, no(api.ErrState)},
				{call{name, list(1, 1), list(3, -1), bits}, no(api.ErrState)},
				{call{name, list(1, 1), list(-1, 3), bits}, no(api.ErrState)},
				{call{name, nil, list(1, -1), bits}, no(api.ErrState)},
				{call{name, list(1, 1), list(1), bits}, no(api.ErrState)},
				{call{name, list(1, 1), list(1, 2), bits}, no(api.ErrState)},
			}...)
		}
	}
	for _, bits := range list(-1, 33, low, math.MinInt, math.MaxInt) {
		checkAll(t, example{call{"Passes", list(1, 1), list(2), bits}, no(api.ErrRange)})
	}
}

// P7.1, P7.2: all short lists.
func TestPlacesByTheirDefinitions(t *testing.T) {
	for _, l := range lists(5, -1, 0, 1, 2, 3, 4, 5) {
		call{name: "Check", l: l}.check(t)
		call{name: "Inverse", l: l}.check(t)
	}
	short := lists(3, -1, 0, 1, 2, 3)
	for _, first := range short {
		for _, second := range short {
			call{name: "Compose", l: first, by: second}.check(t)
		}
	}
}

// P7.3, P7.4, P7.6: all short lists, cut in all ways, and in ways that are none.
func TestSegmentsByTheirDefinitions(t *testing.T) {
	all := append(lists(4, -3, 0, 2, high), list(1, high+1), list(low-1))
	lens := append(lists(3, -1, 0, 1, 2, 3, 4), list(1, high+1), list(low-1), list(high), list(high, high, low))
	for _, l := range all {
		for _, by := range lens {
			for _, bits := range list(-1, 0, 1, 2, 32, 33) {
				call{"Passes", l, by, bits}.check(t)
			}
			for _, name := range inSegments {
				call{name: name, l: l, by: by, bits: 31}.check(t)
			}
		}
	}
}

// P7.5: all short lists, sorted ones and others.
func TestMergesByTheirDefinition(t *testing.T) {
	all := append(lists(4, low, -1, 3, high), list(1, high+1), list(low-1))
	for _, a := range all {
		for _, b := range all {
			call{name: "Merge", l: a, by: b}.check(t)
		}
	}
}

// scattered returns a list of so many words, among them the same ones; it is the same each time for the same numbers.
func scattered(r *rand.Rand, many int) []int {
	l, small := make([]int, many), r.Intn(32)
	for i := range l {
		l[i] = int(int32(r.Uint32())) >> small
	}
	return l
}

// sorted returns words in order.
func sorted(l []int) []int {
	l = slices.Clone(l)
	slices.Sort(l)
	return l
}

// lengthsOf returns lengths of so many words; some are 0.
func lengthsOf(r *rand.Rand, many int) []int {
	var lens []int
	for many > 0 || r.Intn(3) > 0 {
		n := min(many, max(0, r.Intn(25)-5))
		lens = append(lens, n)
		many -= n
	}
	return lens
}

// P7.1 to P7.6: longer lists.
func TestLongerListsByTheirDefinitions(t *testing.T) {
	r := rand.New(rand.NewSource(1))
	for range 1500 {
		many := r.Intn(80)
		l, lens := scattered(r, many), lengthsOf(r, many)
		for _, name := range inSegments {
			call{name, l, lens, r.Intn(33)}.check(t)
		}
		call{name: "Merge", l: sorted(l), by: sorted(scattered(r, r.Intn(80)))}.check(t)
		places := r.Perm(many)
		call{name: "Compose", l: places, by: r.Perm(many)}.check(t)
		if many > 0 {
			places[r.Intn(many)] = r.Intn(many + 1) // places no more, in most cases
		}
		call{name: "Check", l: places}.check(t)
		call{name: "Inverse", l: places}.check(t)
	}
}

// P7.1, P7.2: as many places as there may be.
func TestPlacesAtTheLimits(t *testing.T) {
	places := upTo(most)
	back := turned(places)
	shifted := append(places[1:most:most], 0)
	checkAll(t, []example{
		{call{name: "Check", l: back}, answer{}},
		{call{name: "Check", l: append(places, most)}, no(api.ErrLong)},
		{call{name: "Check", l: append(places[:most-1:most-1], 0)}, no(api.ErrArg)},
		{call{name: "Check", l: append(places[:most-1:most-1], most)}, no(api.ErrArg)},
		{call{name: "Inverse", l: back}, got(back)},
		{call{name: "Inverse", l: append(list(most-1), places[:most-1]...)}, got(shifted)},
		{call{name: "Compose", l: back, by: back}, got(places)},
		{call{name: "Compose", l: places, by: shifted}, got(shifted)},
		{call{name: "Compose", l: shifted, by: places[:most-1]}, no(api.ErrState)},
	}...)
}

// P7.4, P7.6: lists of as many words as there may be, in one segment, in some, and in as many as there may be.
func TestSegmentsAtTheLimits(t *testing.T) {
	const half = most / 2
	places, ones, none := upTo(most), filled(most, 1), filled(most, 0)
	back := turned(places)
	halves := slices.Concat(back[half:], back[:half])
	checkAll(t, []example{
		{call{name: "Split", l: slices.Concat(ones[:half], none[:half]), by: list(most)}, got(slices.Concat(places[half:], places[:half]))},
		{call{name: "Split", l: places, by: list(0, most)}, got(places)},
		{call{name: "Passes", l: back, by: list(most), bits: 32}, got(back)},
		{call{name: "Passes", l: back, by: list(most, 0), bits: 20}, got(back)},
		{call{name: "Passes", l: back, by: ones, bits: 32}, got(places)},
		{call{name: "Order", l: back, by: list(most)}, got(back)},
		{call{name: "Order", l: back, by: list(half, 0, half)}, got(halves)},
		{call{name: "Order", l: back, by: ones}, got(places)},
		{call{name: "Order", l: ones, by: list(most)}, got(places)},
		{call{name: "Ranks", l: back, by: list(most)}, got(back)},
		{call{name: "Ranks", l: back, by: list(half, half)}, got(slices.Concat(back[half:], back[half:]))},
		{call{name: "Ranks", l: back, by: ones}, got(none)},
		{call{name: "Firsts", l: back, by: list(most)}, both(places, list(most))},
		{call{name: "Firsts", l: ones, by: list(0, most, 0)}, both(list(0), list(0, 1, 0))},
		{call{name: "Firsts", l: ones, by: ones}, both(places, ones)},
		{call{name: "Firsts", by: none}, both(nil, none)},
		{call{name: "Order", by: none}, got(nil)},
		{call{name: "Order", l: list(5), by: append(none[:most-1:most-1], 1)}, got(list(0))},
		{call{name: "Order", l: ones, by: list(half, half+1)}, no(api.ErrState)},
		{call{name: "Order", l: append(ones, 1), by: list(most, 1)}, no(api.ErrLong)},
		{call{name: "Order", l: ones, by: append(ones, 0)}, no(api.ErrLong)},
	}...)
}

// P7.5: as many words as there may be.
func TestMergesAtTheLimits(t *testing.T) {
	const half = most / 2
	places := upTo(most)
	var odd, even []int
	for i := range half {
		even, odd = append(even, 2*i), append(odd, 2*i+1)
	}
	checkAll(t, []example{
		{call{name: "Merge", l: odd, by: even}, both(odd, even)},
		{call{name: "Merge", l: places}, both(places, nil)},
		{call{name: "Merge", by: places}, both(nil, places)},
		{call{name: "Merge", l: filled(half, 7), by: filled(half, 7)}, both(places[:half], places[half:])},
		{call{name: "Merge", l: odd, by: append(even, most)}, no(api.ErrLong)},
		{call{name: "Merge", l: append(odd, most), by: even}, no(api.ErrLong)},
		{call{name: "Merge", l: places, by: list(0)}, no(api.ErrLong)},
		{call{name: "Merge", l: list(0), by: places}, no(api.ErrLong)},
		{call{name: "Merge", l: turned(odd), by: even}, no(api.ErrOrder)},
	}...)
}
