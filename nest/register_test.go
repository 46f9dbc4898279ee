package nest_test

import (
	"math"
	"slices"
	"testing"

	"sheafworks/api"
	"sheafworks/nest"
)

// badRegisters are registers that hold no values of a type.
var badRegisters = []struct {
	name string
	kind api.Type
	n    int
	regs [][]int
}{
	{"units with a register", unit, 1, registers("0")},
	{"none, of ints", number, 0, nil},
	{"two, of ints", number, 1, registers("1; 1")},
	{"an int too few", number, 2, registers("1")},
	{"an int too many", number, 1, registers("1 2")},
	{"an int where there is none", number, 0, registers("1")},
	{"no word", number, 2, registers("1 2147483648")},
	{"no word below", number, 2, registers("-2147483649 1")},
	{"a pair's first part", pairOf(number, number), 1, registers("2147483648; 1")},
	{"a pair's second part", pairOf(number, number), 1, registers("1; 2147483648")},
	{"a pair's parts of other sizes", pairOf(number, number), 1, registers("1; 1 1")},
	{"a pair without its second part", pairOf(number, number), 1, registers("1")},
	{"a tag of 2", sumOf(unit, unit), 1, registers("2")},
	{"a tag of -1", sumOf(unit, unit), 1, registers("-1")},
	{"the first part of a sum", sumOf(number, number), 1, registers("0; 2147483648; 1")},
	{"the second part of a sum", sumOf(number, number), 1, registers("1; 1; 2147483648")},
	{"a part of a sum that is too short", sumOf(number, number), 2, registers("1 1; 1; 1 1")},
	{"no start", seqOf(number), 1, registers("; 0; 1")},
	{"no length", seqOf(number), 1, registers("0; ; 1")},
	{"no pool", seqOf(number), 1, registers("0; 0")},
	{"a pool of units with a register", seqOf(unit), 1, registers("0; 0; 1")},
	{"a length below 0", seqOf(number), 1, registers("0; -1; 1 1")},
	{"a length below 0, of units", seqOf(unit), 1, registers("0; -1")},
	{"a length too great", seqOf(number), 1, [][]int{list(0), list(4097), filled(5000, 1)}},
	{"a length too great, of units", seqOf(unit), 1, registers("0; 4097")},
	{"a start below 0", seqOf(number), 1, registers("-1; 1; 1 1")},
	{"a start below 0, of units", seqOf(unit), 1, registers("-1; 1")},
	{"a start at the pool's end", seqOf(number), 1, registers("2; 1; 1 1")},
	{"one more than the pool", seqOf(number), 1, registers("0; 3; 1 1")},
	{"a start whose end overflows", seqOf(number), 1, [][]int{list(math.MaxInt), list(1), list(1, 1)}},
	{"a start far below 0", seqOf(number), 1, [][]int{list(math.MinInt), list(1), list(1, 1)}},
	{"one in an empty pool", seqOf(number), 1, registers("0; 1; ")},
	{"the second sequence", seqOf(number), 2, registers("0 1; 2 2; 1 1")},
	{"no word in a pool", seqOf(number), 2, registers("0 2; 1 1; 1 1 2147483648")},
	{"a pool's registers of other sizes", seqOf(pairOf(number, number)), 1, registers("0; 0; 1 1; 1")},
	{"a pool's registers of other sizes, not reached", seqOf(rows), 0, registers("; ; ; 0; ; ; ")},
	{"an inner pool's registers of other sizes", seqOf(seqOf(pairOf(number, number))), 1, registers("0; 0; 0; 0; 1; 1 2")},
	{"an inner length", rows, 1, registers("0; 2; 0 1; 1 2; 5 6")},
	{"an inner start", rows, 1, registers("1; 1; 0 2; 1 1; 5 6")},
	{"an inner word", rows, 1, registers("0; 1; 1; 1; 5 2147483648")},
	{"a tag in a pool", seqOf(sumOf(unit, number)), 1, registers("0; 2; 0 2; 0 0")},
}

// P3.4: registers that hold no values; Same, Canon, Pick and Join have the errors of Build, and Same and Join those of their second registers.
func TestRegistersThatHoldNothing(t *testing.T) {
	for _, x := range badRegisters {
		wantReading(t, x.name, x.kind, x.n, x.regs, api.ErrForm)
		right := slices.Repeat([][]int{nil}, ownOf(x.kind)+dataOf(x.kind))
		regs, err := nest.Join(x.kind, 0, right, x.n, x.regs)
		wantErr(t, "Join of nothing and "+x.name, err, api.ErrForm, regs)
		some := slices.Repeat([]api.Value{newMaker(1).value(x.kind)}, x.n)
		same, err := nest.Same(x.kind, x.n, flattened(t, x.kind, some), x.regs)
		wantErr(t, "Same with "+x.name, err, api.ErrForm, same)
	}
}

// wantReading checks the error of all functions that read registers.
func wantReading(t *testing.T, name string, kind api.Type, n int, regs [][]int, want api.Errno) {
	t.Helper()
	values, err := nest.Build(kind, n, regs)
	wantErr(t, "Build: "+name, err, want, values)
	for _, other := range [][][]int{regs, nil, registers("9; 9; 9; 9; 9; 9; 9; 9; 9")} {
		same, err := nest.Same(kind, n, regs, other)
		wantErr(t, "Same: "+name, err, want, same)
		for _, m := range list(n, -1, 0) {
			joined, err := nest.Join(kind, n, regs, m, other)
			wantErr(t, "Join: "+name, err, want, joined)
		}
	}
	canon, err := nest.Canon(kind, n, regs)
	wantErr(t, "Canon: "+name, err, want, canon)
	for _, places := range [][]int{nil, list(0), list(-1), list(n)} {
		picked, err := nest.Pick(kind, n, regs, places)
		wantErr(t, "Pick: "+name, err, want, picked)
	}
}

// P3.4: how many values there may be.
func TestBuildHowMany(t *testing.T) {
	for _, n := range list(-1, math.MinInt, api.ValueMost+1, math.MaxInt) {
		wantReading(t, "units", unit, n, nil, api.ErrRange)
		wantReading(t, "no ints", number, n, nil, api.ErrRange)
		wantReading(t, "no words", number, n, registers("2147483648 1"), api.ErrRange)
	}
	most := api.ValueMost
	wantReading(t, "one int too few", number, most, [][]int{filled(most-1, 7)}, api.ErrForm)
	wantReading(t, "too many nodes", pairOf(unit, unit), most/3+1, nil, api.ErrLong)
	wantReading(t, "too many nodes", sumOf(unit, unit), most/2+1, [][]int{filled(most/2+1, 1)}, api.ErrLong)
	wantReading(t, "too many units", seqOf(unit), 5, [][]int{filled(5, 0), list(4000, 4000, 4000, 4000, 3996)}, api.ErrLong)
	wantReading(t, "too many, one of which is none", seqOf(unit), 6, [][]int{filled(6, 0), list(4096, 4096, 4096, 4096, 4096, -1)}, api.ErrForm)
	if got := built(t, unit, most, nil); len(got) != most {
		t.Errorf("Build of units: %d", len(got))
	}
	if got := built(t, number, most, [][]int{filled(most, -7)}); len(got) != most || !areSame(got[most-1:], []api.Value{word(-7)}) {
		t.Errorf("Build of ints: %d", len(got))
	}
	if got := built(t, pairOf(unit, unit), most/3, nil); len(got) != most/3 {
		t.Errorf("Build of pairs: %d", len(got))
	}
	got := built(t, seqOf(unit), 5, [][]int{filled(5, 0), list(4000, 4000, 4000, 4000, 3995)})
	wantValues(t, "Build of sequences", got[3:], api.OK, []api.Value{units(4000), units(3995)})
}

// P3.4: what is shared may hold more than can be looked at one by one.
func TestBuildOfWhatIsShared(t *testing.T) {
	kind := deep(12, number)
	regs := [][]int{list(0), list(4096)}
	for range 10 {
		regs = append(regs, filled(4096, 0), filled(4096, 4096))
	}
	regs = append(regs, filled(4096, 5))
	wantReading(t, "far too many nodes", kind, 1, regs, api.ErrLong)
	regs[len(regs)-1][4095] = api.WordHigh + 1
	wantReading(t, "far too many nodes, one of them no word", kind, 1, regs, api.ErrForm)
}

// P3.4: sequences that begin at each of many places.
func TestBuildOfWhatOverlaps(t *testing.T) {
	many := 300000
	starts := make([]int, many)
	for i := range starts {
		starts[i] = i
	}
	outer := make([]int, 70)
	for i := range outer {
		outer[i] = 4096 * i
	}
	regs := [][]int{outer, filled(70, 4096), starts, filled(many, 4096), filled(many+4095, 5)}
	wantBuildErr := func(name string, want api.Errno) {
		t.Helper()
		values, err := nest.Build(rows, 70, regs)
		wantErr(t, "Build: "+name, err, want, values)
	}
	wantBuildErr("all words", api.ErrLong)
	last := 4096*70 + 4094
	regs[4][last] = api.WordLow - 1
	wantBuildErr("no word at the last place", api.ErrForm)
	regs[4][last], regs[4][last+1] = 0, api.WordLow-1
	wantBuildErr("no word behind the last place", api.ErrLong)
}

// P3.4: sequences of units may begin anywhere, and end where no number tells it.
func TestBuildOfUnits(t *testing.T) {
	many := pairOf(unit, pairOf(unit, unit))
	part := both(theUnit(), both(theUnit(), theUnit()))
	for _, start := range list(0, 5, math.MaxInt-1, math.MaxInt) {
		got := built(t, seqOf(unit), 2, [][]int{list(start, -9), list(3, 0)})
		wantValues(t, "Build of units", got, api.OK, []api.Value{units(3), units(0)})
		got = built(t, seqOf(many), 1, [][]int{list(start), list(2)})
		wantValues(t, "Build of pairs of units", got, api.OK, []api.Value{seq(part, part)})
	}
	got := built(t, seqOf(seqOf(unit)), 2, [][]int{list(1, 0), list(2, 1), list(9, 0, 9), list(1, 4096, 0)})
	wantValues(t, "Build of sequences of units", got, api.OK, []api.Value{seq(units(4096), units(0)), seq(units(1))})
}

// P3.4: all registers of two sequences of ints with small numbers.
func TestBuildOfAllSmallSequences(t *testing.T) {
	for _, starts := range tuples(2, -1, 3) {
		for _, lens := range tuples(2, -1, 3) {
			for size := range 4 {
				pool := list(api.WordHigh, 1, api.WordHigh+1, api.WordLow)[:size]
				checkBuild(t, seqOf(number), 2, [][]int{starts, lens, pool})
			}
		}
	}
}

// tuples returns all lists of so many numbers from low to high.
func tuples(many, low, high int) [][]int {
	all := [][]int{nil}
	for range many {
		var longer [][]int
		for _, l := range all {
			for n := low; n <= high; n++ {
				longer = append(longer, append(slices.Clone(l), n))
			}
		}
		all = longer
	}
	return all
}

// checkBuild checks Build by the model, and returns whether the registers hold values.
func checkBuild(t *testing.T, kind api.Type, n int, regs [][]int) bool {
	t.Helper()
	want, ok := model{map[*int]bool{}}.build(kind, n, regs)
	got, err := nest.Build(kind, n, regs)
	if ok && (err != api.OK || !areSame(got, want)) || !ok && (err != api.ErrForm || len(got) > 0) {
		t.Errorf("Build of %d of %v: %v: %v, error %d; want %v, %v", n, kind, regs, got, err, want, ok)
	}
	return ok
}

// P3.5
func TestSame(t *testing.T) {
	a := registers("0 3; 3 1; 0 2 2 3; 2 0 1 1; 5 6 7 8")
	for _, x := range []struct {
		other string
		want  bool
	}{
		{"0 3; 3 1; 0 2 2 3; 2 0 1 1; 5 6 7 8", true},
		{"1 0; 3 1; 3 0 5 2; 1 2 0 1; 5 6 7 8", true},
		{"1 0; 3 1; 3 0 5 2; 1 2 0 1; 5 6 8 7", false},
		{"2 1; 3 1; 9 0 1 -4 3; -1 1 2 0 1; 8 5 6 7", true},
		{"2 1; 3 1; 9 0 1 -4 3; -1 1 2 0 1; 9 5 6 7", false},
		{"0 3; 3 0; 0 2 2 3; 2 0 1 1; 5 6 7 8", false},
		{"0 3; 3 1; 0 2 2 3; 2 1 1 1; 5 6 7 8", false},
		{"3 0; 1 3; 0 2 2 3; 2 0 1 1; 5 6 7 8", false},
	} {
		same, err := nest.Same(rows, 2, a, registers(x.other))
		if err != api.OK || same != x.want {
			t.Errorf("Same with %s: %v, error %d", x.other, same, err)
		}
	}
	sides := registers("0 1; 3 4; 5 6")
	for other, want := range map[string]bool{"0 1; 3 -9; 0 6": true, "0 1; 3 4; 5 7": false, "0 0; 3 4; 5 6": false} {
		same, err := nest.Same(sumOf(number, number), 2, sides, registers(other))
		if err != api.OK || same != want {
			t.Errorf("Same with %s: %v, error %d", other, same, err)
		}
	}
	for _, n := range list(0, 1, 9) {
		if same, err := nest.Same(unit, n, nil, [][]int{}); err != api.OK || !same {
			t.Errorf("Same of units: %v, error %d", same, err)
		}
	}
	long := [][]int{filled(5, 0), filled(5, 4096)}
	same, err := nest.Same(seqOf(unit), 5, [][]int{filled(5, 0), filled(5, 0)}, long)
	wantErr(t, "Same with what is too long", err, api.ErrLong, same)
}

// P3.6
func TestPickErrorsInOrder(t *testing.T) {
	regs := registers("4 5 6")
	for _, places := range [][]int{list(3), list(-1), list(0, 1, 2, 3), list(math.MaxInt), list(math.MinInt), filled(api.ValueMost+1, 0), filled(api.ValueMost+1, 9)} {
		picked, err := nest.Pick(number, 3, regs, places)
		wantErr(t, "Pick", err, api.ErrRange, picked)
		picked, err = nest.Pick(unit, 0, nil, places)
		wantErr(t, "Pick of nothing", err, api.ErrRange, picked)
	}
	picked, err := nest.Pick(number, 3, regs, filled(api.ValueMost, 2))
	wantRegs(t, "Pick of as many as there may be", picked, err, [][]int{filled(api.ValueMost, 6)})
	picked, err = nest.Pick(number, 3, regs, nil)
	wantRegs(t, "Pick of no place", picked, err, registers(""))
	picked, err = nest.Pick(unit, 2, nil, list(1, 1, 1))
	wantRegs(t, "Pick of units", picked, err, nil)
	picked, err = nest.Pick(either, 2, registers("0 1; 4 9; -7 1; -8 1; 5 6 2147483648"), list(1, 0, 1))
	wantRegs(t, "Pick of either", picked, err, registers("1 0 1; 9 4 9; 1 -7 1; 1 -8 1; 5 6 2147483648"))
}

// P3.7
func TestJoinErrorsInOrder(t *testing.T) {
	right, none := registers("7"), registers("2147483648")
	for _, x := range []struct {
		name  string
		n     int
		regs  [][]int
		m     int
		other [][]int
		want  api.Errno
		kind  api.Type
	}{
		{"both too many", -1, right, -1, right, api.ErrRange, number},
		{"the first ones none", 1, none, -1, right, api.ErrForm, number},
		{"the second ones below 0", 1, right, -1, none, api.ErrRange, number},
		{"the second ones too many", 1, right, api.ValueMost + 1, none, api.ErrRange, number},
		{"the second ones none", 1, right, 1, none, api.ErrForm, number},
		{"the second ones more", 1, right, 2, right, api.ErrForm, number},
		{"the first ones too long", 9, [][]int{filled(9, 0), filled(9, 4096)}, 1, none, api.ErrLong, seqOf(unit)},
		{"the second ones too long", 0, [][]int{nil, nil}, 9, [][]int{filled(9, 0), filled(9, 4096)}, api.ErrLong, seqOf(unit)},
	} {
		joined, err := nest.Join(x.kind, x.n, x.regs, x.m, x.other)
		wantErr(t, "Join: "+x.name, err, x.want, joined)
	}
	half := filled(api.ValueMost, 7)
	joined, err := nest.Join(number, len(half), [][]int{half}, len(half), [][]int{half})
	wantRegs(t, "Join of as many as there may be", joined, err, [][]int{slices.Concat(half, half)})
	joined, err = nest.Join(unit, 3, nil, 4, nil)
	wantRegs(t, "Join of units", joined, err, nil)
	joined, err = nest.Join(seqOf(unit), 1, registers("5; 2"), 2, registers("7 -1; 1 0"))
	wantRegs(t, "Join of sequences of units", joined, err, registers("5 7 -1; 2 1 0"))
	joined, err = nest.Join(either, 1, registers("0; 4; -3; -3; 1 2 3"), 2, registers("1 0; 9 8; 1 -5; 1 -6; 6 7"))
	wantRegs(t, "Join of either", joined, err, registers("0 1 0; 4 9 8; -3 4 -2; -3 1 -6; 1 2 3 6 7"))
}
