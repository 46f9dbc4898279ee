package nest_test

import (
	"math"
	"testing"

	"sheafworks/api"
	"sheafworks/nest"
)

// badNodes are values whose first node is one of no type.
func badNodes() map[string]api.Value {
	return map[string]api.Value{
		"a kind that is none":       {Kind: 5},
		"a kind below 0":            {Kind: -1},
		"a kind far above":          {Kind: math.MaxInt},
		"a unit with N":             {Kind: api.ValueUnit, N: 1},
		"a unit with a part":        {Kind: api.ValueUnit, L: []api.Value{theUnit()}},
		"an int with a part":        {Kind: api.ValueInt, L: []api.Value{theUnit()}},
		"an int above the words":    word(api.WordHigh + 1),
		"an int below the words":    word(api.WordLow - 1),
		"a great int":               word(math.MaxInt),
		"a pair of none":            {Kind: api.ValuePair},
		"a pair of one":             {Kind: api.ValuePair, L: []api.Value{theUnit()}},
		"a pair of three":           {Kind: api.ValuePair, L: make([]api.Value, 3)},
		"a pair with N":             {Kind: api.ValuePair, N: 1, L: make([]api.Value, 2)},
		"a left one of nothing":     {Kind: api.ValueSum},
		"a left one of two":         {Kind: api.ValueSum, L: make([]api.Value, 2)},
		"a right one of nothing":    {Kind: api.ValueSum, N: 1},
		"a sum that is neither":     {Kind: api.ValueSum, N: 2, L: make([]api.Value, 1)},
		"a sum with N below 0":      {Kind: api.ValueSum, N: -1, L: make([]api.Value, 1)},
		"a sequence with N":         {Kind: api.ValueSeq, N: 1},
		"a sequence with N below 0": {Kind: api.ValueSeq, N: -1, L: make([]api.Value, 1)},
	}
}

// goodValues are values of types, those at the limits among them.
func goodValues() []struct {
	v    api.Value
	kind api.Type
	size int
} {
	type good = struct {
		v    api.Value
		kind api.Type
		size int
	}
	pairs := pairOf(number, seqOf(unit))
	return []good{
		{theUnit(), unit, 1},
		{word(0), number, 1},
		{word(api.WordLow), number, 1},
		{word(api.WordHigh), number, 1},
		{both(word(-3), units(2)), pairs, 5},
		{left(word(4)), either, 2},
		{right(words()), either, 2},
		{right(words(1, 2)), either, 4},
		{seq(), rows, 1},
		{exampleU(), rows, 7},
		{seq(left(word(1)), right(words(2)), left(word(3))), seqOf(either), 8},
		{units(api.SeqMost), seqOf(unit), api.SeqMost + 1},
		{tower(12, theUnit()), deep(12, unit), 12},
		{tower(11, words()), deep(12, unit), 11},
		{tower(5, units(api.SeqMost)), deep(6, unit), api.SeqMost + 5},
		{seq(units(4095), units(4095), units(4095), units(4095), units(3614)), seqOf(seqOf(unit)), api.ValueMost},
	}
}

// P3.2
func TestValuesThatAreRight(t *testing.T) {
	for _, x := range goodValues() {
		wantErr(t, "Check", nest.Check(x.v, x.kind), api.OK)
		size, err := nest.Size(x.v)
		wantNumber(t, "Size", size, err, x.size, api.OK)
		if !nest.Valid(x.v) {
			t.Errorf("Valid of %v: false", x.v)
		}
	}
}

// P3.2: no value is one of another type, unless nothing in it says of which one it is.
func TestValuesOfOtherTypes(t *testing.T) {
	values := []api.Value{theUnit(), word(1), both(theUnit(), word(1)), both(word(1), theUnit()), left(word(1)), right(theUnit()), words(1), units(1), seq(words(1))}
	kinds := []api.Type{unit, number, pairOf(unit, number), pairOf(number, unit), sumOf(number, rows), sumOf(either, unit), seqOf(number), seqOf(unit), rows}
	for i, v := range values {
		for k, kind := range kinds {
			want := api.ErrArg
			if i == k {
				want = api.OK
			}
			wantErr(t, "Check", nest.Check(v, kind), want)
			wantErr(t, "Check within", nest.Check(seq(v, v), seqOf(kind)), want)
			wantErr(t, "Check behind another", nest.Check(both(words(), v), pairOf(rows, kind)), want)
			regs, err := nest.Flatten(kind, []api.Value{values[k], v})
			wantErr(t, "Flatten", err, want, regs)
		}
	}
	for _, kind := range append(kinds, either) {
		for name, v := range badNodes() {
			wantErr(t, "Check of "+name, nest.Check(v, kind), api.ErrArg)
		}
	}
	wantErr(t, "Check of nothing", nest.Check(seq(), rows), api.OK)
	wantErr(t, "Check of nothing", nest.Check(seq(), seqOf(either)), api.OK)
}

// P3.2
func TestValuesThatAreNone(t *testing.T) {
	for name, v := range badNodes() {
		for _, w := range []api.Value{v, seq(v), seq(theUnit(), v), both(words(1), v), left(v), right(seq(v)), tower(11, v)} {
			if nest.Valid(w) {
				t.Errorf("Valid: %s: true", name)
			}
			if _, err := nest.Size(w); err != api.OK {
				t.Errorf("Size: %s: error %d", name, err)
			}
		}
	}
	for _, v := range []api.Value{tower(13, theUnit()), tower(13, word(1)), tower(5000, theUnit()), both(theUnit(), tower(12, theUnit()))} {
		size, err := nest.Size(v)
		if nest.Valid(v) || err != api.OK || size < 13 {
			t.Errorf("a value with too many levels: Valid %v, Size %d, error %d", nest.Valid(v), size, err)
		}
	}
	size, err := nest.Size(api.Value{Kind: api.ValuePair, L: make([]api.Value, 5000)})
	wantNumber(t, "Size of a pair of many", size, err, 5001, api.OK)
	size, err = nest.Size(api.Value{Kind: -7, N: 9, L: []api.Value{units(3)}})
	wantNumber(t, "Size of no value", size, err, 5, api.OK)
}

// longValues are values that are too long.
func longValues() map[string]api.Value {
	bad := units(api.SeqMost)
	bad.N = 1
	return map[string]api.Value{
		"a sequence of too many":        units(api.SeqMost + 1),
		"a sequence of too many within": right(both(theUnit(), seq(units(api.SeqMost+1)))),
		"of too many, with N":           {Kind: api.ValueSeq, N: 1, L: make([]api.Value, api.SeqMost+1)},
		"too many nodes":                seq(units(4095), units(4095), units(4095), units(4095), units(3615)),
		"too many nodes, with N":        seq(bad, bad, bad, bad, bad),
		"too many nodes of no kind":     {Kind: -1, L: make([]api.Value, api.ValueMost)},
		"too many levels, and so nodes": tower(api.ValueMost+1, theUnit()),
		"itself within":                 circle(),
	}
}

// P3.2 and P3.3: what is too long is refused first, whatever else is wrong with it.
func TestValuesThatAreTooLong(t *testing.T) {
	for name, v := range longValues() {
		size, err := nest.Size(v)
		wantErr(t, "Size: "+name, err, api.ErrLong, size)
		if nest.Valid(v) {
			t.Errorf("Valid: %s: true", name)
		}
		for _, kind := range []api.Type{number, rows, seqOf(unit), seqOf(seqOf(unit))} {
			wantErr(t, "Check: "+name, nest.Check(v, kind), api.ErrLong)
			for _, values := range [][]api.Value{{v}, {word(1), v}, {v, {Kind: -1}}} {
				regs, err := nest.Flatten(kind, values)
				wantErr(t, "Flatten: "+name, err, api.ErrLong, regs)
			}
		}
	}
}

// P3.3
func TestFlattenAtTheLimits(t *testing.T) {
	regs, err := nest.Flatten(unit, make([]api.Value, api.ValueMost))
	wantRegs(t, "Flatten of units", regs, err, nil)
	regs, err = nest.Flatten(unit, make([]api.Value, api.ValueMost+1))
	wantErr(t, "Flatten of too many units", err, api.ErrLong, regs)
	regs, err = nest.Flatten(number, make([]api.Value, api.ValueMost+1))
	wantErr(t, "Flatten of too many units, as ints", err, api.ErrLong, regs)
	regs, err = nest.Flatten(number, make([]api.Value, api.ValueMost))
	wantErr(t, "Flatten of units, as ints", err, api.ErrArg, regs)
	five := []api.Value{units(3999), units(3999), units(3999), units(3999), units(3999)}
	regs, err = nest.Flatten(seqOf(unit), five)
	wantRegs(t, "Flatten of sequences of units", regs, err, [][]int{list(0, 3999, 7998, 11997, 15996), filled(5, 3999)})
	regs, err = nest.Flatten(seqOf(unit), append(five, units(0)))
	wantErr(t, "Flatten of too many nodes together", err, api.ErrLong, regs)
	regs, err = nest.Flatten(seqOf(unit), append(five[:4:4], word(1)))
	wantErr(t, "Flatten of an int, as a sequence", err, api.ErrArg, regs)
	regs, err = nest.Flatten(rows, nil)
	wantRegs(t, "Flatten of nothing", regs, err, registers(";;;;"))
	regs, err = nest.Flatten(seqOf(unit), []api.Value{units(api.SeqMost)})
	wantRegs(t, "Flatten of a long sequence", regs, err, [][]int{list(0), list(api.SeqMost)})
}
