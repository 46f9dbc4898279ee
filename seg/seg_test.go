package seg_test

import (
	"math"
	"slices"
	"testing"

	"sheafworks/api"
	"sheafworks/seg"
)

const most = api.VecMost

// list writes a list of numbers; list() is the list of none.
func list(numbers ...int) []int { return numbers }

// filled returns a list of one number, so many times.
func filled(many, n int) []int { return slices.Repeat(list(n), many) }

// wantList checks a list and an error; with an error the list must be empty.
func wantList(t *testing.T, call string, got []int, err api.Errno, want []int, wantErr api.Errno) {
	t.Helper()
	if wantErr != api.OK {
		want = nil
	}
	if err != wantErr || !slices.Equal(got, want) {
		t.Errorf("%s: %s, error %d; want %s, error %d", call, short(got), err, short(want), wantErr)
	}
}

// wantNumber checks a number and an error; with an error the number must be 0.
func wantNumber(t *testing.T, call string, got int, err api.Errno, want int, wantErr api.Errno) {
	t.Helper()
	if wantErr != api.OK {
		want = 0
	}
	if err != wantErr || got != want {
		t.Errorf("%s: %d, error %d; want %d, error %d", call, got, err, want, wantErr)
	}
}

// lists returns all lists of at most so many numbers from low to high.
func lists(many, low, high int) [][]int {
	all := [][]int{nil}
	from := 0
	for range many {
		to := len(all)
		for _, l := range all[from:to] {
			for n := low; n <= high; n++ {
				all = append(all, append(slices.Clone(l), n))
			}
		}
		from = to
	}
	return all
}

// badLengths are lists that are no lengths, with their errors.
var badLengths = []struct {
	name string
	lens []int
	err  api.Errno
}{
	{"too many", filled(most+1, 0), api.ErrLong},
	{"too many, below 0", filled(most+1, -1), api.ErrLong},
	{"below 0", list(-1), api.ErrRange},
	{"below 0 at the end", list(2, 0, 3, -1), api.ErrRange},
	{"far below 0", list(math.MinInt), api.ErrRange},
	{"below 0 ahead of too much", list(-1, most+2), api.ErrRange},
	{"below 0 behind too much", list(most+1, -1), api.ErrRange},
	{"below 0 behind very much", list(math.MaxInt, math.MaxInt, math.MinInt), api.ErrRange},
	{"below 0 and so not too much", list(most, 1, -1), api.ErrRange},
	{"one too much", list(most + 1), api.ErrFull},
	{"one too much together", list(most, 0, 1), api.ErrFull},
	{"one too much, in ones", append(filled(most-1, 1), 2), api.ErrFull},
	{"very much", list(math.MaxInt), api.ErrFull},
	{"a sum that would overflow", list(math.MaxInt, math.MaxInt, 2), api.ErrFull},
	{"a sum that would overflow later", list(1, math.MaxInt), api.ErrFull},
}

// sums is what the chapter says of lengths that are right: the total, and where each segment begins.
func sums(lens []int) (total int, starts []int) {
	for _, n := range lens {
		starts = append(starts, total)
		total += n
	}
	return total, starts
}

// P2.1
func TestLengthsExamples(t *testing.T) {
	lens := list(2, 0, 3)
	total, err := seg.Check(lens)
	wantNumber(t, "Check 2 0 3", total, err, 5, api.OK)
	starts, err := seg.Starts(lens)
	wantList(t, "Starts 2 0 3", starts, err, list(0, 2, 2), api.OK)
	heads, err := seg.Heads(lens)
	wantList(t, "Heads 2 0 3", heads, err, list(1, 0, 2, 0, 0, 0), api.OK)
	owners, err := seg.Owners(lens)
	wantList(t, "Owners 2 0 3", owners, err, list(0, 0, 2, 2, 2), api.OK)
	heads, err = seg.Heads(list(0, 1, 0))
	wantList(t, "Heads 0 1 0", heads, err, list(2, 1), api.OK)
	heads, err = seg.Heads(nil)
	wantList(t, "Heads of nothing", heads, err, list(0), api.OK)
}

// P2.1
func TestLengthsByTheirDefinitions(t *testing.T) {
	for _, lens := range lists(5, 0, 3) {
		total, starts := sums(lens)
		var owners []int
		for i, n := range lens {
			owners = append(owners, filled(n, i)...)
		}
		heads := filled(total+1, 0)
		for place := range heads {
			for _, start := range starts {
				if start == place {
					heads[place]++
				}
			}
		}
		gotTotal, err := seg.Check(lens)
		wantNumber(t, "Check "+short(lens), gotTotal, err, total, api.OK)
		got, err := seg.Starts(lens)
		wantList(t, "Starts "+short(lens), got, err, starts, api.OK)
		got, err = seg.Heads(lens)
		wantList(t, "Heads "+short(lens), got, err, heads, api.OK)
		got, err = seg.Owners(lens)
		wantList(t, "Owners "+short(lens), got, err, owners, api.OK)
	}
}

// P2.1
func TestLengthsErrorsInOrder(t *testing.T) {
	for _, x := range badLengths {
		total, err := seg.Check(x.lens)
		wantNumber(t, "Check: "+x.name, total, err, 0, x.err)
		got, err := seg.Starts(x.lens)
		wantList(t, "Starts: "+x.name, got, err, nil, x.err)
		got, err = seg.Heads(x.lens)
		wantList(t, "Heads: "+x.name, got, err, nil, x.err)
		got, err = seg.Owners(x.lens)
		wantList(t, "Owners: "+x.name, got, err, nil, x.err)
	}
}

// P2.1: as many segments, and as many elements, as there may be.
func TestLengthsAtTheLimits(t *testing.T) {
	numbers := make([]int, most)
	for i := range numbers {
		numbers[i] = i
	}
	for _, x := range []struct {
		name                        string
		lens, starts, owners, heads []int
		total                       int
	}{
		{name: "all empty", lens: filled(most, 0), starts: filled(most, 0), heads: list(most)},
		{name: "all of one", lens: filled(most, 1), starts: numbers, owners: numbers, heads: append(filled(most, 1), 0), total: most},
		{name: "one of all", lens: list(most), starts: list(0), owners: filled(most, 0), heads: append(list(1), filled(most, 0)...), total: most},
	} {
		total, err := seg.Check(x.lens)
		wantNumber(t, "Check: "+x.name, total, err, x.total, api.OK)
		got, err := seg.Starts(x.lens)
		wantList(t, "Starts: "+x.name, got, err, x.starts, api.OK)
		got, err = seg.Owners(x.lens)
		wantList(t, "Owners: "+x.name, got, err, x.owners, api.OK)
		got, err = seg.Heads(x.lens)
		wantList(t, "Heads: "+x.name, got, err, x.heads, api.OK)
		for name, back := range thereAndBack(t, x.lens) {
			wantList(t, x.name+" from "+name, back, api.OK, x.lens, api.OK)
		}
	}
}

// P2.2
func TestLengthsFromStarts(t *testing.T) {
	for _, x := range []struct {
		name   string
		starts []int
		total  int
		want   []int
		err    api.Errno
	}{
		{"0 2 2, 5", list(0, 2, 2), 5, list(2, 0, 3), api.OK},
		{"0 3 2, 5", list(0, 3, 2), 5, nil, api.ErrOrder},
		{"1, 5", list(1), 5, nil, api.ErrOrder},
		{"nothing, 1", nil, 1, nil, api.ErrOrder},
		{"nothing, 0", nil, 0, nil, api.OK},
		{"0 5, 5", list(0, 5), 5, list(5, 0), api.OK},
		{"0 6, 5", list(0, 6), 5, nil, api.ErrOrder},
		{"-1, 0", list(-1), 0, nil, api.ErrOrder},
		{"0 MaxInt, VecMost", list(0, math.MaxInt), most, nil, api.ErrOrder},
		{"MinInt 0, 0", list(math.MinInt, 0), 0, nil, api.ErrOrder},
		{"0 MinInt, 0", list(0, math.MinInt), 0, nil, api.ErrOrder},
		{"0, VecMost", list(0), most, list(most), api.OK},
		{"0, VecMost + 1", list(0), most + 1, nil, api.ErrRange},
		{"1, -1", list(1), -1, nil, api.ErrRange},
		{"nothing, MinInt", nil, math.MinInt, nil, api.ErrRange},
		{"nothing, MaxInt", nil, math.MaxInt, nil, api.ErrRange},
		{"as many as may be", filled(most, 0), 7, append(filled(most-1, 0), 7), api.OK},
		{"too many", filled(most+1, 0), 0, nil, api.ErrLong},
		{"too many, and no total", filled(most+1, 1), -1, nil, api.ErrLong},
	} {
		got, err := seg.Lengths(x.starts, x.total)
		wantList(t, "Lengths "+x.name, got, err, x.want, x.err)
	}
}

// P2.2: what is accepted is just what some lengths have.
func TestLengthsFromAllStarts(t *testing.T) {
	known := map[string][]int{}
	for _, lens := range lists(4, 0, 3) {
		total, starts := sums(lens)
		known[short(append(starts, total))] = lens
	}
	for total := range 4 {
		for _, starts := range lists(4, -1, 4) {
			want, ok := known[short(append(slices.Clone(starts), total))]
			wantErr := api.OK
			if !ok {
				wantErr = api.ErrOrder
			}
			got, err := seg.Lengths(starts, total)
			wantList(t, "Lengths "+short(starts), got, err, want, wantErr)
		}
	}
}

// P2.3
func TestLengthsFromHeads(t *testing.T) {
	for _, x := range []struct {
		name  string
		heads []int
		want  []int
		err   api.Errno
	}{
		{"2 1", list(2, 1), list(0, 1, 0), api.OK},
		{"0", list(0), nil, api.OK},
		{"0 1", list(0, 1), nil, api.ErrOrder},
		{"0 0", list(0, 0), nil, api.ErrOrder},
		{"3", list(3), list(0, 0, 0), api.OK},
		{"1 0 2 0 0 0", list(1, 0, 2, 0, 0, 0), list(2, 0, 3), api.OK},
		{"nothing", nil, nil, api.ErrArg},
		{"-1", list(-1), nil, api.ErrRange},
		{"0 -1", list(0, -1), nil, api.ErrRange},
		{"VecMost 1 -1", list(most, 1, -1), nil, api.ErrRange},
		{"MaxInt MaxInt 2 -1", list(math.MaxInt, math.MaxInt, 2, -1), nil, api.ErrRange},
		{"VecMost", list(most), filled(most, 0), api.OK},
		{"VecMost + 1", list(most + 1), nil, api.ErrFull},
		{"1 VecMost", list(1, most), nil, api.ErrFull},
		{"0 VecMost + 1", list(0, most+1), nil, api.ErrFull},
		{"MaxInt MaxInt 2", list(math.MaxInt, math.MaxInt, 2), nil, api.ErrFull},
		{"as many as may be", append(filled(most, 1), 0), filled(most, 1), api.OK},
		{"as many as may be, one segment", append(list(1), filled(most, 0)...), list(most), api.OK},
		{"as many as may be, no segment", filled(most+1, 0), nil, api.ErrOrder},
		{"as many as may be, a segment too many", filled(most+1, 1), nil, api.ErrFull},
		{"too many", filled(most+2, -1), nil, api.ErrLong},
	} {
		got, err := seg.OfHeads(x.heads)
		wantList(t, "OfHeads "+x.name, got, err, x.want, x.err)
	}
}

// headsOf is what the chapter says of the heads.
func headsOf(lens []int) []int {
	total, starts := sums(lens)
	heads := filled(total+1, 0)
	for _, start := range starts {
		heads[start]++
	}
	return heads
}

// P2.3: what is accepted is just what some lengths have.
func TestLengthsFromAllHeads(t *testing.T) {
	known := map[string][]int{}
	for _, lens := range lists(6, 0, 2) {
		known[short(headsOf(lens))] = lens
	}
	for _, heads := range lists(3, 0, 2) {
		if len(heads) == 0 {
			continue
		}
		want, ok := known[short(heads)]
		wantErr := api.OK
		if !ok {
			wantErr = api.ErrOrder
		}
		got, err := seg.OfHeads(heads)
		wantList(t, "OfHeads "+short(heads), got, err, want, wantErr)
	}
}

// P2.4
func TestLengthsFromOwners(t *testing.T) {
	for _, x := range []struct {
		name   string
		owners []int
		many   int
		want   []int
		err    api.Errno
	}{
		{"0 0 2, 4", list(0, 0, 2), 4, list(2, 0, 1, 0), api.OK},
		{"1 0, 2", list(1, 0), 2, nil, api.ErrOrder},
		{"2, 2", list(2), 2, nil, api.ErrRange},
		{"nothing, 0", nil, 0, nil, api.OK},
		{"nothing, 3", nil, 3, list(0, 0, 0), api.OK},
		{"0, 0", list(0), 0, nil, api.ErrRange},
		{"-1, 3", list(-1), 3, nil, api.ErrRange},
		{"1 -1, 3", list(1, -1), 3, nil, api.ErrRange},
		{"2 0, 2", list(2, 0), 2, nil, api.ErrRange},
		{"1 0 2, 2", list(1, 0, 2), 2, nil, api.ErrOrder}, // the first owner with an error decides
		{"1 2 0, 2", list(1, 2, 0), 2, nil, api.ErrRange},
		{"0 0 1 1 0, 2", list(0, 0, 1, 1, 0), 2, nil, api.ErrOrder},
		{"MaxInt, VecMost", list(math.MaxInt), most, nil, api.ErrRange},
		{"MinInt, VecMost", list(math.MinInt), most, nil, api.ErrRange},
		{"nothing, -1", nil, -1, nil, api.ErrRange},
		{"1 0, -1", list(1, 0), -1, nil, api.ErrRange},
		{"1 0, VecMost + 1", list(1, 0), most + 1, nil, api.ErrRange},
		{"nothing, MaxInt", nil, math.MaxInt, nil, api.ErrRange},
		{"nothing, VecMost", nil, most, filled(most, 0), api.OK},
		{"VecMost - 1, VecMost", list(most - 1), most, append(filled(most-1, 0), 1), api.OK},
		{"as many as may be", filled(most, 1), 3, list(0, most, 0), api.OK},
		{"too many", filled(most+1, 0), 1, nil, api.ErrLong},
		{"too many, and for none", filled(most+1, 0), -1, nil, api.ErrLong},
	} {
		got, err := seg.OfOwners(x.owners, x.many)
		wantList(t, "OfOwners "+x.name, got, err, x.want, x.err)
	}
}

// P2.4: what is accepted is just what some lengths have.
func TestLengthsFromAllOwners(t *testing.T) {
	for many := range 4 {
		known := map[string][]int{}
		for _, lens := range lists(many, 0, 4) {
			var owners []int
			for i, n := range lens {
				owners = append(owners, filled(n, i)...)
			}
			if len(lens) == many {
				known[short(owners)] = lens
			}
		}
		for _, owners := range lists(4, 0, 2) {
			if slices.ContainsFunc(owners, func(n int) bool { return n >= many }) {
				continue
			}
			want, ok := known[short(owners)]
			wantErr := api.OK
			if !ok {
				wantErr = api.ErrOrder
			}
			got, err := seg.OfOwners(owners, many)
			wantList(t, "OfOwners "+short(owners), got, err, want, wantErr)
		}
	}
}

// P2.5
func TestNest(t *testing.T) {
	for _, x := range []struct {
		name               string
		outer, inner, want []int
		err                api.Errno
	}{
		{"2 0 1, 2 0 3", list(2, 0, 1), list(2, 0, 3), list(2, 0, 3), api.OK},
		{"1 1, 2 0 3", list(1, 1), list(2, 0, 3), nil, api.ErrArg},
		{"4, 2 0 3", list(4), list(2, 0, 3), nil, api.ErrArg},
		{"nothing, 2", nil, list(2), nil, api.ErrArg},
		{"nothing, nothing", nil, nil, nil, api.OK},
		{"0 0, nothing", list(0, 0), nil, list(0, 0), api.OK},
		{"1 2, 4 5 6", list(1, 2), list(4, 5, 6), list(4, 11), api.OK},
		{"0 3 0, 4 5 6", list(0, 3, 0), list(4, 5, 6), list(0, 15, 0), api.OK},
		{"-1, VecMost + 1", list(-1), list(most + 1), nil, api.ErrRange},
		{"VecMost + 1, -1", list(most + 1), list(-1), nil, api.ErrFull},
		{"1 1, -1", list(1, 1), list(-1), nil, api.ErrRange},
		{"1, VecMost + 1", list(1), list(most + 1), nil, api.ErrFull},
		{"too many outer ones", filled(most+1, 0), list(-1), nil, api.ErrLong},
		{"too many inner ones", nil, filled(most+1, 0), nil, api.ErrLong},
		{"as many as may be", list(most), filled(most, 1), list(most), api.OK},
	} {
		got, err := seg.Nest(x.outer, x.inner)
		wantList(t, "Nest "+x.name, got, err, x.want, x.err)
	}
}

// P2.5
func TestSplit(t *testing.T) {
	for _, x := range []struct {
		name          string
		lens          []int
		most          int
		pieces, outer []int
		err           api.Errno
	}{
		{"5 0 2, 2", list(5, 0, 2), 2, list(2, 2, 1, 2), list(3, 0, 1), api.OK},
		{"nothing, 1", nil, 1, nil, nil, api.OK},
		{"0 0, 3", list(0, 0), 3, nil, list(0, 0), api.OK},
		{"4, 2", list(4), 2, list(2, 2), list(2), api.OK},
		{"3 2, 1", list(3, 2), 1, list(1, 1, 1, 1, 1), list(3, 2), api.OK},
		{"3 2, VecMost", list(3, 2), most, list(3, 2), list(1, 1), api.OK},
		{"3 2, 0", list(3, 2), 0, nil, nil, api.ErrRange},
		{"3 2, -1", list(3, 2), -1, nil, nil, api.ErrRange},
		{"3 2, VecMost + 1", list(3, 2), most + 1, nil, nil, api.ErrRange},
		{"nothing, MinInt", nil, math.MinInt, nil, nil, api.ErrRange},
		{"nothing, MaxInt", nil, math.MaxInt, nil, nil, api.ErrRange},
		{"VecMost + 1, 0", list(most + 1), 0, nil, nil, api.ErrFull},
		{"too many, 0", filled(most+1, 0), 0, nil, nil, api.ErrLong},
		{"VecMost, 1", list(most), 1, filled(most, 1), list(most), api.OK},
		{"VecMost, VecMost - 1", list(most), most - 1, list(most-1, 1), list(2), api.OK},
	} {
		pieces, outer, err := seg.Split(x.lens, x.most)
		wantList(t, "Split "+x.name+" (pieces)", pieces, err, x.pieces, x.err)
		wantList(t, "Split "+x.name+" (outer)", outer, err, x.outer, x.err)
	}
}
