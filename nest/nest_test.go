package nest_test

import (
	"math"
	"reflect"
	"slices"
	"strconv"
	"strings"
	"testing"

	"sheafworks/api"
	"sheafworks/nest"
)

// The types of the tests.
var (
	unit   = api.Type{Kind: api.TypeUnit}
	number = api.Type{Kind: api.TypeInt}
	rows   = seqOf(seqOf(number))
	either = sumOf(number, seqOf(number))
)

func pairOf(a, b api.Type) api.Type {
	return api.Type{Kind: api.TypePair, L: []api.Type{a, b}}
}

func sumOf(a, b api.Type) api.Type { return api.Type{Kind: api.TypeSum, L: []api.Type{a, b}} }

func seqOf(a api.Type) api.Type { return api.Type{Kind: api.TypeSeq, L: []api.Type{a}} }

// deep returns a type of so many levels: sequences of sequences.
func deep(levels int, inner api.Type) api.Type {
	for range levels - 1 {
		inner = seqOf(inner)
	}
	return inner
}

// broad returns a type of so many nodes, on few levels: pairs, within a sequence if the number is even.
func broad(size int, inner api.Type) api.Type {
	if size == 1 {
		return inner
	}
	if size%2 == 0 {
		return seqOf(broad(size-1, inner))
	}
	first := (size-1)/2 | 1
	return pairOf(broad(first, inner), broad(size-1-first, inner))
}

// endless returns a type that has itself in it.
func endless() api.Type {
	parts := make([]api.Type, 1)
	parts[0] = api.Type{Kind: api.TypeSeq, L: parts}
	return parts[0]
}

func theUnit() api.Value { return api.Value{} }

func word(n int) api.Value { return api.Value{Kind: api.ValueInt, N: n} }

func both(a, b api.Value) api.Value {
	return api.Value{Kind: api.ValuePair, L: []api.Value{a, b}}
}

func left(v api.Value) api.Value {
	return api.Value{Kind: api.ValueSum, L: []api.Value{v}}
}

func right(v api.Value) api.Value {
	return api.Value{Kind: api.ValueSum, N: 1, L: []api.Value{v}}
}

func seq(parts ...api.Value) api.Value {
	return api.Value{Kind: api.ValueSeq, L: slices.Clone(parts)}
}

// words returns a sequence of ints.
func words(numbers ...int) api.Value {
	v := seq()
	for _, n := range numbers {
		v.L = append(v.L, word(n))
	}
	return v
}

// units returns a sequence of so many units.
func units(many int) api.Value {
	return api.Value{Kind: api.ValueSeq, L: make([]api.Value, many)}
}

// tower returns a value of so many levels: a sequence of one sequence, and so on, around another value.
func tower(levels int, inner api.Value) api.Value {
	for range levels - 1 {
		inner = seq(inner)
	}
	return inner
}

// circle returns a value that has itself in it.
func circle() api.Value {
	parts := make([]api.Value, 1)
	parts[0] = api.Value{Kind: api.ValueSeq, L: parts}
	return parts[0]
}

// The values of the chapter's examples.
func exampleU() api.Value { return seq(words(5, 6), words(), words(7)) }

func exampleW() api.Value { return seq(words(8)) }

// list writes a list of numbers.
func list(numbers ...int) []int { return numbers }

// filled returns a list of one number, so many times.
func filled(many, n int) []int { return slices.Repeat(list(n), many) }

// registers reads registers: their numbers, with a semicolon between one and the next.
func registers(text string) [][]int {
	var regs [][]int
	for _, part := range strings.Split(text, ";") {
		reg := []int{}
		for _, field := range strings.Fields(part) {
			n, err := strconv.Atoi(field)
			if err != nil {
				panic(err)
			}
			reg = append(reg, n)
		}
		regs = append(regs, reg)
	}
	return regs
}

// areSame reports whether values are the same; a nil list is an empty one.
func areSame(a, b []api.Value) bool {
	return slices.EqualFunc(a, b, func(x, y api.Value) bool {
		return x.Kind == y.Kind && x.N == y.N && areSame(x.L, y.L)
	})
}

// sameRegs reports whether registers are the same.
func sameRegs(a, b [][]int) bool { return slices.EqualFunc(a, b, slices.Equal) }

// wantErr checks an error of a call whose other results are given, too: with an error they must be zero.
func wantErr(t *testing.T, call string, err, want api.Errno, results ...any) {
	t.Helper()
	if err != want {
		t.Errorf("%s: error %d; want the error %d", call, err, want)
	}
	for _, x := range results {
		v := reflect.ValueOf(x)
		if want != api.OK && !v.IsZero() && (v.Kind() != reflect.Slice || v.Len() > 0) {
			t.Errorf("%s: %v beside the error %d", call, x, err)
		}
	}
}

// wantNumber checks a number and an error.
func wantNumber(t *testing.T, call string, got int, err api.Errno, want int, wanted api.Errno) {
	t.Helper()
	wantErr(t, call, err, wanted, got)
	if wanted == api.OK && got != want {
		t.Errorf("%s: %d; want %d", call, got, want)
	}
}

// wantRegs checks registers that come without an error.
func wantRegs(t *testing.T, call string, got [][]int, err api.Errno, want [][]int) {
	t.Helper()
	if err != api.OK || !sameRegs(got, want) {
		t.Errorf("%s: %v, error %d; want %v", call, got, err, want)
	}
}

// wantValues checks values that come without an error.
func wantValues(t *testing.T, call string, got []api.Value, err api.Errno, want []api.Value) {
	t.Helper()
	if err != api.OK || !areSame(got, want) {
		t.Errorf("%s: %v, error %d; want %v", call, got, err, want)
	}
}

// flattened returns the registers of values.
func flattened(t *testing.T, kind api.Type, values []api.Value) [][]int {
	t.Helper()
	regs, err := nest.Flatten(kind, values)
	if err != api.OK {
		t.Fatalf("Flatten %v: error %d", values, err)
	}
	return regs
}

// built returns the values that registers hold.
func built(t *testing.T, kind api.Type, n int, regs [][]int) []api.Value {
	t.Helper()
	values, err := nest.Build(kind, n, regs)
	if err != api.OK {
		t.Fatalf("Build %v: error %d", regs, err)
	}
	return values
}

// P3.1
func TestCounts(t *testing.T) {
	for _, x := range []struct {
		name      string
		kind      api.Type
		own, data int
	}{
		{"unit", unit, 0, 0},
		{"int", number, 1, 0},
		{"pair of units", pairOf(unit, unit), 0, 0},
		{"pair of ints", pairOf(number, number), 2, 0},
		{"pair of a sequence and an int", pairOf(seqOf(number), number), 3, 1},
		{"sum of units", sumOf(unit, unit), 1, 0},
		{"sum of ints", sumOf(number, number), 3, 0},
		{"either", either, 4, 1},
		{"sum of rows and rows", sumOf(rows, rows), 5, 6},
		{"sequence of units", seqOf(unit), 2, 0},
		{"sequence of ints", seqOf(number), 2, 1},
		{"rows", rows, 2, 3},
		{"sequence of either", seqOf(either), 2, 5},
		{"sequence of pairs of rows and a unit", seqOf(pairOf(rows, unit)), 2, 5},
		{"12 levels", deep(12, number), 2, 21},
		{"59 nodes", broad(59, number), 30, 0},
		{"60 nodes", broad(60, number), 2, 30},
	} {
		own, err := nest.Own(x.kind)
		wantNumber(t, "Own: "+x.name, own, err, x.own, api.OK)
		data, err := nest.Data(x.kind)
		wantNumber(t, "Data: "+x.name, data, err, x.data, api.OK)
	}
}

// badTypes are types that are refused, with their errors.
func badTypes() map[string]struct {
	kind api.Type
	err  api.Errno
} {
	type bad = struct {
		kind api.Type
		err  api.Errno
	}
	function := api.Type{Kind: api.TypeFun, L: []api.Type{number, number}}
	variable := api.Type{Kind: api.TypeVar}
	return map[string]bad{
		"a function":                         {function, api.ErrType},
		"a variable":                         {variable, api.ErrType},
		"a kind that is none":                {api.Type{Kind: 7}, api.ErrType},
		"a kind below 0":                     {api.Type{Kind: -1}, api.ErrType},
		"a kind far below 0":                 {api.Type{Kind: math.MinInt}, api.ErrType},
		"a function within":                  {seqOf(pairOf(number, function)), api.ErrType},
		"a unit with a part":                 {api.Type{Kind: api.TypeUnit, L: []api.Type{unit}}, api.ErrType},
		"an int with a part":                 {api.Type{Kind: api.TypeInt, L: []api.Type{unit}}, api.ErrType},
		"a pair of one":                      {api.Type{Kind: api.TypePair, L: []api.Type{unit}}, api.ErrType},
		"a pair of none":                     {api.Type{Kind: api.TypePair}, api.ErrType},
		"a pair of three":                    {api.Type{Kind: api.TypePair, L: []api.Type{unit, unit, unit}}, api.ErrType},
		"a sum of one":                       {api.Type{Kind: api.TypeSum, L: []api.Type{unit}}, api.ErrType},
		"a sum of three":                     {api.Type{Kind: api.TypeSum, L: []api.Type{unit, unit, unit}}, api.ErrType},
		"a sequence of none":                 {api.Type{Kind: api.TypeSeq}, api.ErrType},
		"a sequence of two":                  {api.Type{Kind: api.TypeSeq, L: []api.Type{unit, unit}}, api.ErrType},
		"a unit with N":                      {api.Type{N: 1}, api.ErrType},
		"an int with N":                      {api.Type{Kind: api.TypeInt, N: 1}, api.ErrType},
		"a pair with N":                      {api.Type{Kind: api.TypePair, N: -1, L: []api.Type{unit, unit}}, api.ErrType},
		"a sum with N":                       {api.Type{Kind: api.TypeSum, N: 1, L: []api.Type{unit, unit}}, api.ErrType},
		"a sequence with N":                  {api.Type{Kind: api.TypeSeq, N: 1, L: []api.Type{unit}}, api.ErrType},
		"12 levels of a variable":            {deep(12, variable), api.ErrType},
		"60 nodes of variables":              {broad(60, variable), api.ErrType},
		"13 levels":                          {deep(13, number), api.ErrLong},
		"13 levels of a variable":            {deep(13, variable), api.ErrLong},
		"61 nodes":                           {broad(61, number), api.ErrLong},
		"61 nodes of variables":              {broad(61, variable), api.ErrLong},
		"many nodes":                         {broad(1000, unit), api.ErrLong},
		"an int with 59 parts":               {api.Type{Kind: api.TypeInt, L: make([]api.Type, 59)}, api.ErrType},
		"an int with 60 parts":               {api.Type{Kind: api.TypeInt, L: make([]api.Type, 60)}, api.ErrLong},
		"a variable ahead of too many nodes": {pairOf(variable, broad(60, number)), api.ErrLong},
		"itself within":                      {endless(), api.ErrLong},
	}
}

// P3.1: the errors of a type come ahead of all others.
func TestTypesThatAreRefused(t *testing.T) {
	for name, x := range badTypes() {
		own, err := nest.Own(x.kind)
		wantErr(t, "Own: "+name, err, x.err, own)
		data, err := nest.Data(x.kind)
		wantErr(t, "Data: "+name, err, x.err, data)
		for _, v := range []api.Value{theUnit(), circle(), {Kind: -1}} {
			wantErr(t, "Check: "+name, nest.Check(v, x.kind), x.err)
			regs, err := nest.Flatten(x.kind, []api.Value{v})
			wantErr(t, "Flatten: "+name, err, x.err, regs)
		}
		regs, err := nest.Flatten(x.kind, nil)
		wantErr(t, "Flatten of nothing: "+name, err, x.err, regs)
		for _, n := range list(0, -1) {
			values, err := nest.Build(x.kind, n, registers("1"))
			wantErr(t, "Build: "+name, err, x.err, values)
			same, err := nest.Same(x.kind, n, nil, nil)
			wantErr(t, "Same: "+name, err, x.err, same)
			regs, err = nest.Canon(x.kind, n, nil)
			wantErr(t, "Canon: "+name, err, x.err, regs)
			regs, err = nest.Pick(x.kind, n, nil, list(1))
			wantErr(t, "Pick: "+name, err, x.err, regs)
			regs, err = nest.Join(x.kind, n, nil, n, nil)
			wantErr(t, "Join: "+name, err, x.err, regs)
		}
	}
}

// P3.1 to P3.7: the chapter's examples.
func TestExamples(t *testing.T) {
	u, w := exampleU(), exampleW()
	ofU, ofW := flattened(t, rows, []api.Value{u}), flattened(t, rows, []api.Value{w})
	regs, err := nest.Flatten(rows, []api.Value{u, w})
	wantRegs(t, "Flatten of rows", regs, err, registers("0 3; 3 1; 0 2 2 3; 2 0 1 1; 5 6 7 8"))
	picked, err := nest.Pick(rows, 2, regs, list(1, 0, 1))
	wantRegs(t, "Pick", picked, err, registers("3 0 3; 1 3 1; 0 2 2 3; 2 0 1 1; 5 6 7 8"))
	regs, err = nest.Join(rows, 1, ofW, 1, ofU)
	wantRegs(t, "Join", regs, err, registers("0 1; 1 3; 0 1 3 3; 1 2 0 1; 8 5 6 7"))
	regs, err = nest.Flatten(either, []api.Value{left(word(4)), right(words(1, 2)), right(words())})
	wantRegs(t, "Flatten of either", regs, err, registers("0 1 1; 4 0 0; 0 0 2; 0 2 0; 1 2"))
	values, err := nest.Build(seqOf(number), 3, registers("1 1 0; 2 1 0; 7 8 9"))
	wantValues(t, "Build", values, err, []api.Value{words(8, 9), words(8), words()})
	values, err = nest.Build(seqOf(number), 3, registers("1 2 0; 2 2 0; 7 8 9"))
	wantErr(t, "Build", err, api.ErrForm, values)
	values, err = nest.Build(seqOf(unit), 2, registers("5 0; 2 0"))
	wantValues(t, "Build of units", values, err, []api.Value{units(2), units(0)})
	wantErr(t, "Check of 3", nest.Check(word(3), rows), api.ErrArg)
	size, err := nest.Size(u)
	wantNumber(t, "Size of u", size, err, 7, api.OK)
	if !nest.Valid(u) || !nest.Valid(seq(word(3), words(4))) || nest.Valid(api.Value{Kind: api.ValuePair, L: []api.Value{word(1)}}) || nest.Valid(api.Value{Kind: api.ValueSum, N: 2, L: []api.Value{word(1)}}) {
		t.Errorf("Valid of the examples")
	}
}
