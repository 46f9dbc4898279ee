package prim_test

import (
	"math"
	"slices"
	"strconv"
	"strings"
	"testing"

	"sheafworks/api"
	"sheafworks/prim"
)

const (
	most = api.VecMost
	low  = api.WordLow
	high = api.WordHigh
)

// list writes a list of numbers; list() is the list of none.
func list(numbers ...int) []int { return numbers }

// filled returns a list of one number, so many times.
func filled(many, n int) []int { return slices.Repeat(list(n), many) }

// upTo returns the numbers from 0 on, so many.
func upTo(many int) []int {
	numbers := make([]int, many)
	for i := range numbers {
		numbers[i] = i
	}
	return numbers
}

// turned returns a list the other way round.
func turned(l []int) []int {
	l = slices.Clone(l)
	slices.Reverse(l)
	return l
}

// short tells a list, of a long one its beginning.
func short(l []int) string {
	var s strings.Builder
	for i, n := range l {
		if i == 30 {
			return s.String() + " .. (" + strconv.Itoa(len(l)) + ")"
		}
		s.WriteString(" " + strconv.Itoa(n))
	}
	return "[" + s.String() + " ]"
}

// tell tells a call by its number and its lists.
func tell(name string, n int, l [][]int) string {
	s := name + " " + strconv.Itoa(n)
	for i, a := range l {
		if i == 5 {
			return s + " .. (" + strconv.Itoa(len(l)) + " lists)"
		}
		s += ", " + short(a)
	}
	return s
}

// want checks a list and an error; with an error the list must be empty.
func want(t *testing.T, call string, got []int, err api.Errno, wanted []int, wantErr api.Errno) {
	t.Helper()
	if wantErr != api.OK {
		wanted = nil
	}
	if err != wantErr || !slices.Equal(got, wanted) {
		t.Errorf("%s: %s, error %d; want %s, error %d", call, short(got), err, short(wanted), wantErr)
	}
}

// lists returns all lists of at most so many of some numbers.
func lists(many int, of ...int) [][]int {
	all := [][]int{nil}
	from := 0
	for range many {
		to := len(all)
		for _, l := range all[from:to] {
			for _, n := range of {
				all = append(all, append(slices.Clone(l), n))
			}
		}
		from = to
	}
	return all
}

// tuples calls do with so many of the lists, in all ways.
func tuples(many int, of [][]int, do func(l [][]int)) {
	l := make([][]int, many)
	var choose func(i int)
	choose = func(i int) {
		if i == many {
			do(slices.Clone(l))
			return
		}
		for _, a := range of {
			l[i] = a
			choose(i + 1)
		}
	}
	choose(0)
}

// example is a call with its result.
type example struct {
	function string
	n        int // of Fill the word, of Bin the operation
	lists    [][]int
	want     []int
	err      api.Errno
}

// check checks that a call returns what an example says.
func (x example) check(t *testing.T) {
	t.Helper()
	got, err := functionOf(t, x.function).call(x.n, x.lists)
	want(t, tell(x.function, x.n, x.lists), got, err, x.want, x.err)
}

// several puts lists together to the lists of a call.
func several(l ...[]int) [][]int { return l }

// P4.2 to P4.5: the examples of the chapter.
func TestExamples(t *testing.T) {
	for _, x := range []example{
		{"Fill", 7, several(list(1, 2, 3)), list(7, 7, 7), api.OK},
		{"Bin", api.OpSub, several(list(5, 1), list(2, 3)), list(3, -2), api.OK},
		{"Bin", api.OpDiv, several(list(1, 2), list(1, 0)), nil, api.ErrTrap},
		{"Bin", api.OpAdd, several(list(1), list(1, 2)), nil, api.ErrState},
		{"Pick", 0, several(list(1, 0, -2), list(1, 2, 3), list(4, 5, 6)), list(1, 5, 3), api.OK},
		{"Pack", 0, several(list(1, 0, -2), list(1, 2, 3)), list(1, 3), api.OK},
		{"Merge", 0, several(list(0, 1, 1, 0), list(1, 2), list(8, 9)), list(8, 1, 2, 9), api.OK},
		{"Merge", 0, several(list(0, 1), list(1, 2), list(3)), nil, api.ErrState},
		{"Gather", 0, several(list(7, 8, 9), list(2, 0, 2)), list(9, 7, 9), api.OK},
		{"Gather", 0, several(list(7, 8, 9), list(3)), nil, api.ErrTrap},
		{"Put", 0, several(list(7, 8, 9), list(2, 0, 1)), list(8, 9, 7), api.OK},
		{"Put", 0, several(list(7, 8, 9), list(0, 0, 1)), nil, api.ErrTrap},
		{"Iota", 0, several(list(2, 0, 3)), list(0, 1, 0, 1, 2), api.OK},
		{"Iota", 0, several(list(-1)), nil, api.ErrTrap},
		{"Iota", 0, several(list(2147483647)), nil, api.ErrFull},
		{"Rep", 0, several(list(7, 8, 9), list(2, 0, 1)), list(7, 7, 9), api.OK},
		{"Cat", 0, several(list(1), list(2, 3)), list(1, 2, 3), api.OK},
		{"Off", 0, several(list(1, 2147483647), list(5, 6)), list(3, -2147483647), api.OK},
		{"Len", 0, several(list(5, 6)), list(2), api.OK},
		{"Weave", 0, several(list(1, 2), list(3, 4), list(5, 6)), list(1, 3, 5, 2, 4, 6), api.OK},
		{"Weave", 0, several(), nil, api.OK},
		{"Weave", 0, several(list(1), list()), nil, api.ErrState},
		{"Trap", 0, several(list(0, 0)), nil, api.OK},
		{"Trap", 0, several(list(0, 5)), nil, api.ErrTrap},
		{"Fill", 2147483648, several(list()), nil, api.ErrRange},
	} {
		x.check(t)
	}
}

// P4.2 to P4.5: lists of nothing.
func TestNothing(t *testing.T) {
	for _, empty := range several(nil, list()) {
		for _, x := range []example{
			{"Fill", 7, several(empty), nil, api.OK},
			{"Bin", api.OpDiv, several(empty, empty), nil, api.OK},
			{"Pick", 0, several(empty, empty, empty), nil, api.OK},
			{"Pack", 0, several(empty, empty), nil, api.OK},
			{"Merge", 0, several(empty, empty, empty), nil, api.OK},
			{"Gather", 0, several(empty, empty), nil, api.OK},
			{"Gather", 0, several(list(7), empty), nil, api.OK},
			{"Gather", 0, several(empty, list(0)), nil, api.ErrTrap},
			{"Put", 0, several(empty, empty), nil, api.OK},
			{"Iota", 0, several(empty), nil, api.OK},
			{"Rep", 0, several(empty, empty), nil, api.OK},
			{"Cat", 0, several(empty, empty), nil, api.OK},
			{"Cat", 0, several(empty, list(3)), list(3), api.OK},
			{"Cat", 0, several(list(3), empty), list(3), api.OK},
			{"Off", 0, several(empty, list(3)), nil, api.OK},
			{"Off", 0, several(list(3), empty), list(3), api.OK},
			{"Len", 0, several(empty), list(0), api.OK},
			{"Weave", 0, several(empty), nil, api.OK},
			{"Weave", 0, several(empty, nil, list()), nil, api.OK},
			{"Trap", 0, several(empty), nil, api.OK},
		} {
			x.check(t)
		}
	}
}

// P4.2 to P4.5: words and places at the edges.
func TestEdges(t *testing.T) {
	for _, x := range []example{
		{"Fill", low, several(list(high)), list(low), api.OK},
		{"Fill", high, several(list(low, 0)), list(high, high), api.OK},
		{"Fill", 0, several(list(1)), list(0), api.OK},
		{"Bin", api.OpMul, several(list(65536), list(65536)), list(0), api.OK},
		{"Bin", api.OpDiv, several(list(low), list(-1)), list(low), api.OK},
		{"Bin", api.OpMod, several(list(-7, 3), list(2, 0)), nil, api.ErrTrap},
		{"Bin", api.OpMod, several(list(0, 0), list(2, -3)), list(0, 0), api.OK},
		{"Bin", api.OpXor, several(list(-1, 0), list(5, 0)), list(-6, 0), api.OK},
		{"Pick", 0, several(list(low, high, 0), list(1, 2, 3), list(4, 5, 6)), list(1, 2, 6), api.OK},
		{"Pack", 0, several(list(low, 0, high), list(low, 2, high)), list(low, high), api.OK},
		{"Pack", 0, several(list(0, 0), list(1, 2)), nil, api.OK},
		{"Merge", 0, several(list(low, high, -1), list(1, 2, 3), nil), list(1, 2, 3), api.OK},
		{"Merge", 0, several(list(0, 0, 0), nil, list(1, 2, 3)), list(1, 2, 3), api.OK},
		{"Gather", 0, several(list(7), list(0, 0, 0)), list(7, 7, 7), api.OK},
		{"Gather", 0, several(list(7, 8), list(0, -1)), nil, api.ErrTrap},
		{"Gather", 0, several(list(7, 8), list(0, 2)), nil, api.ErrTrap},
		{"Gather", 0, several(list(7, 8), list(low)), nil, api.ErrTrap},
		{"Gather", 0, several(list(7, 8), list(high)), nil, api.ErrTrap},
		{"Put", 0, several(list(7), list(0)), list(7), api.OK},
		{"Put", 0, several(list(7, 8), list(1, 1)), nil, api.ErrTrap},
		{"Put", 0, several(list(7, 8), list(1, 2)), nil, api.ErrTrap},
		{"Put", 0, several(list(7, 8), list(0, -1)), nil, api.ErrTrap},
		{"Put", 0, several(list(7), list(1)), nil, api.ErrTrap},
		{"Iota", 0, several(list(0, 0)), nil, api.OK},
		{"Iota", 0, several(list(1, 1)), list(0, 0), api.OK},
		{"Iota", 0, several(list(low)), nil, api.ErrTrap},
		{"Rep", 0, several(list(low, high), list(0, 2)), list(high, high), api.OK},
		{"Rep", 0, several(list(1, 2), list(2, -1)), nil, api.ErrTrap},
		{"Rep", 0, several(list(1), list(high)), nil, api.ErrFull},
		{"Off", 0, several(list(high, low, -1), list(0)), list(low, low+1, 0), api.OK},
		{"Len", 0, several(list(low)), list(1), api.OK},
		{"Weave", 0, several(list(3, 2, 1)), list(3, 2, 1), api.OK},
		{"Weave", 0, several(list(3), list(2), list(1)), list(3, 2, 1), api.OK},
		{"Trap", 0, several(list(0, low, 0)), nil, api.ErrTrap},
		{"Trap", 0, several(list(-1)), nil, api.ErrTrap},
		{"Trap", 0, several(list(0, 0, 1)), nil, api.ErrTrap},
	} {
		x.check(t)
	}
}

// P4.1
func TestErrorsInOrder(t *testing.T) {
	long, noWord := filled(most+1, 0), filled(2, high+1)
	for _, x := range []example{
		{"Bin", 12, several(long, noWord), nil, api.ErrArg},
		{"Bin", -1, several(nil, nil), nil, api.ErrArg},
		{"Bin", math.MinInt, several(list(1), list(1, 2)), nil, api.ErrArg},
		{"Bin", math.MaxInt, several(list(1), list(0)), nil, api.ErrArg},
		{"Bin", api.OpDiv, several(noWord, long), nil, api.ErrLong},
		{"Bin", api.OpDiv, several(list(1, 1, 1), noWord), nil, api.ErrRange},
		{"Bin", api.OpDiv, several(list(1, 2), list(0)), nil, api.ErrState},
		{"Bin", api.OpDiv, several(list(1, high+1), list(0, 1)), nil, api.ErrRange},
		{"Fill", high + 1, several(long), nil, api.ErrLong},
		{"Fill", math.MinInt, several(nil), nil, api.ErrRange},
		{"Fill", 0, several(noWord), nil, api.ErrRange},
		{"Pick", 0, several(nil, noWord, long), nil, api.ErrLong},
		{"Pick", 0, several(list(1), noWord, nil), nil, api.ErrRange},
		{"Pick", 0, several(list(1), list(1), nil), nil, api.ErrState},
		{"Pick", 0, several(list(1), nil, list(1)), nil, api.ErrState},
		{"Pick", 0, several(nil, list(1), list(1)), nil, api.ErrState},
		{"Pick", 0, several(list(0), list(1), noWord[:1]), nil, api.ErrRange}, // also a word that is not picked
		{"Pack", 0, several(noWord, long), nil, api.ErrLong},
		{"Pack", 0, several(list(0), noWord), nil, api.ErrRange},
		{"Pack", 0, several(list(0, 0), noWord), nil, api.ErrRange},
		{"Pack", 0, several(list(0), list(0, 0)), nil, api.ErrState},
		{"Merge", 0, several(long, noWord, nil), nil, api.ErrLong},
		{"Merge", 0, several(nil, noWord, nil), nil, api.ErrRange},
		{"Merge", 0, several(list(1, 0), list(1), nil), nil, api.ErrState},
		{"Merge", 0, several(list(1, 1), list(1), list(2)), nil, api.ErrState},
		{"Merge", 0, several(list(0, 0), list(1), list(2)), nil, api.ErrState},
		{"Merge", 0, several(list(1), list(1), list(2)), nil, api.ErrState},
		{"Merge", 0, several(list(0), list(1), list(2)), nil, api.ErrState},
		{"Merge", 0, several(nil, filled(most, 1), filled(most, 1)), nil, api.ErrState},
		{"Gather", 0, several(noWord, long), nil, api.ErrLong},
		{"Gather", 0, several(noWord, list(9)), nil, api.ErrRange},
		{"Gather", 0, several(list(1), list(9, low-1)), nil, api.ErrRange},
		{"Put", 0, several(long, noWord), nil, api.ErrLong},
		{"Put", 0, several(list(1), noWord), nil, api.ErrRange},
		{"Put", 0, several(list(1, 2), list(9)), nil, api.ErrState},
		{"Put", 0, several(list(1), list(0, 1)), nil, api.ErrState},
		{"Iota", 0, several(filled(most+1, high+1)), nil, api.ErrLong},
		{"Iota", 0, several(list(-1, high+1)), nil, api.ErrRange},
		{"Iota", 0, several(list(high, -1)), nil, api.ErrTrap},
		{"Rep", 0, several(noWord, long), nil, api.ErrLong},
		{"Rep", 0, several(noWord, list(-1)), nil, api.ErrRange},
		{"Rep", 0, several(list(1), list(-1, high)), nil, api.ErrState},
		{"Rep", 0, several(list(1, 2), list(high, -1)), nil, api.ErrTrap},
		{"Cat", 0, several(noWord, long), nil, api.ErrLong},
		{"Cat", 0, several(noWord, filled(most, 0)), nil, api.ErrRange},
		{"Cat", 0, several(list(1), filled(most, 0)), nil, api.ErrFull},
		{"Off", 0, several(noWord, long), nil, api.ErrLong},
		{"Off", 0, several(nil, noWord), nil, api.ErrRange},
		{"Off", 0, several(noWord, nil), nil, api.ErrRange},
		{"Len", 0, several(filled(most+1, high+1)), nil, api.ErrLong},
		{"Len", 0, several(noWord), nil, api.ErrRange},
		{"Weave", 0, several(nil, noWord, long), nil, api.ErrLong},
		{"Weave", 0, several(nil, noWord), nil, api.ErrRange},
		{"Weave", 0, several(filled(most, 1), list(1)), nil, api.ErrState},
		{"Weave", 0, several(filled(most, 1), filled(most, 1)), nil, api.ErrFull},
		{"Trap", 0, several(filled(most+1, high+1)), nil, api.ErrLong},
		{"Trap", 0, several(list(1, low-1)), nil, api.ErrRange},
		{"Trap", 0, several(list(0, high+1)), nil, api.ErrRange},
	} {
		x.check(t)
	}
}

// P4.2 to P4.4: lists of as many words as there may be.
func TestPlaceByPlaceAtTheLimits(t *testing.T) {
	numbers := upTo(most)
	odd, ones := make([]int, most), filled(most, 1)
	for i := range odd {
		odd[i] = i % 2
	}
	var evens []int
	for i := 0; i < most; i += 2 {
		evens = append(evens, i)
	}
	for _, x := range []example{
		{"Fill", -3, several(numbers), filled(most, -3), api.OK},
		{"Bin", api.OpAdd, several(numbers, turned(numbers)), filled(most, most-1), api.OK},
		{"Bin", api.OpMod, several(numbers, filled(most, 2)), odd, api.OK},
		{"Bin", api.OpDiv, several(numbers, append(ones[:most-1:most-1], 0)), nil, api.ErrTrap},
		{"Pick", 0, several(odd, ones, filled(most, 0)), odd, api.OK},
		{"Pack", 0, several(ones, numbers), numbers, api.OK},
		{"Pack", 0, several(filled(most, 0), numbers), nil, api.OK},
		{"Pack", 0, several(turned(odd), numbers), evens, api.OK},
		{"Merge", 0, several(ones, numbers, nil), numbers, api.OK},
		{"Merge", 0, several(filled(most, 0), nil, numbers), numbers, api.OK},
		{"Merge", 0, several(odd, filled(most/2, 1), filled(most/2, 0)), odd, api.OK},
		{"Merge", 0, several(odd, filled(most/2+1, 1), filled(most/2-1, 0)), nil, api.ErrState},
		{"Gather", 0, several(numbers, turned(numbers)), turned(numbers), api.OK},
		{"Gather", 0, several(list(5), filled(most, 0)), filled(most, 5), api.OK},
		{"Gather", 0, several(numbers, list(most-1, most)), nil, api.ErrTrap},
		{"Put", 0, several(numbers, turned(numbers)), turned(numbers), api.OK},
		{"Put", 0, several(numbers, append(upTo(most-1), 0)), nil, api.ErrTrap},
		{"Off", 0, several(list(0, high), numbers), list(most, low+most-1), api.OK},
		{"Off", 0, several(numbers, nil), numbers, api.OK},
		{"Len", 0, several(numbers), list(most), api.OK},
		{"Trap", 0, several(filled(most, 0)), nil, api.OK},
		{"Trap", 0, several(append(filled(most-1, 0), 1)), nil, api.ErrTrap},
	} {
		x.check(t)
	}
}

// P4.3 to P4.5: results of as many words as there may be, and of more.
func TestFullResults(t *testing.T) {
	numbers, half := upTo(most), upTo(most/2)
	var twice []int
	for _, n := range half {
		twice = append(twice, n, n)
	}
	for _, x := range []example{
		{"Iota", 0, several(list(most)), numbers, api.OK},
		{"Iota", 0, several(list(0, most/2, 0, most/2)), slices.Concat(half, half), api.OK},
		{"Iota", 0, several(filled(most, 1)), filled(most, 0), api.OK},
		{"Iota", 0, several(list(most + 1)), nil, api.ErrFull},
		{"Iota", 0, several(list(most, 0, 1)), nil, api.ErrFull},
		{"Iota", 0, several(append(filled(most-1, 1), 2)), nil, api.ErrFull},
		{"Iota", 0, several(filled(most, high)), nil, api.ErrFull},
		{"Iota", 0, several(append(filled(most-1, high), -1)), nil, api.ErrTrap},
		{"Rep", 0, several(list(5, 6), list(0, most)), filled(most, 6), api.OK},
		{"Rep", 0, several(numbers, filled(most, 1)), numbers, api.OK},
		{"Rep", 0, several(numbers, filled(most, 0)), nil, api.OK},
		{"Rep", 0, several(half, filled(most/2, 2)), twice, api.OK},
		{"Rep", 0, several(list(5, 6), list(1, most)), nil, api.ErrFull},
		{"Rep", 0, several(numbers, filled(most, high)), nil, api.ErrFull},
		{"Cat", 0, several(numbers, nil), numbers, api.OK},
		{"Cat", 0, several(half, half), slices.Concat(half, half), api.OK},
		{"Cat", 0, several(half, upTo(most/2+1)), nil, api.ErrFull},
		{"Cat", 0, several(numbers, numbers), nil, api.ErrFull},
		{"Weave", 0, several(numbers), numbers, api.OK},
		{"Weave", 0, several(half, half), twice, api.OK},
		{"Weave", 0, several(half, half, half), nil, api.ErrFull},
		{"Weave", 0, slices.Repeat(several(list(5)), most), filled(most, 5), api.OK},
		{"Weave", 0, slices.Repeat(several(list(5)), most+1), nil, api.ErrFull},
		{"Weave", 0, slices.Repeat(several(nil), most+1), nil, api.OK},
	} {
		x.check(t)
	}
}

// P4.5: with an error, and without one, Trap has no other result; so its table is looked at here by itself.
func TestTrap(t *testing.T) {
	for _, flags := range lists(4, -1, 0, 1) {
		wantErr := api.OK
		if slices.ContainsFunc(flags, func(flag int) bool { return flag != 0 }) {
			wantErr = api.ErrTrap
		}
		if err := prim.Trap(flags); err != wantErr {
			t.Errorf("Trap %s: error %d; want %d", short(flags), err, wantErr)
		}
	}
}
