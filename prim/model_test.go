package prim_test

import (
	"math"
	"math/rand"
	"slices"
	"testing"

	"sheafworks/api"
	"sheafworks/prim"
	"sheafworks/word"
)

// function is one of the package, with what the chapter's table says of it, as slowly as it is said. The number n is the word of Fill and the operation of Bin.
type function struct {
	name  string
	lists int // how many lists it has; of Weave there may be any number
	call  func(n int, l [][]int) ([]int, api.Errno)
	fit   func(l [][]int) bool
	traps func(n int, l [][]int) bool
	size  func(l [][]int) int
	value func(n int, l [][]int) []int
}

// functions returns all functions of the package.
func functions() []function {
	return []function{
		{"Fill", 1, func(n int, l [][]int) ([]int, api.Errno) { return prim.Fill(n, l[0]) }, anyLists, never, small, fillValue},
		{"Bin", 2, func(n int, l [][]int) ([]int, api.Errno) { return prim.Bin(n, l[0], l[1]) }, even, binTraps, small, binValue},
		{"Pick", 3, func(n int, l [][]int) ([]int, api.Errno) { return prim.Pick(l[0], l[1], l[2]) }, even, never, small, pickValue},
		{"Pack", 2, func(n int, l [][]int) ([]int, api.Errno) { return prim.Pack(l[0], l[1]) }, even, never, small, packValue},
		{"Merge", 3, func(n int, l [][]int) ([]int, api.Errno) { return prim.Merge(l[0], l[1], l[2]) }, mergeFit, never, small, mergeValue},
		{"Gather", 2, func(n int, l [][]int) ([]int, api.Errno) { return prim.Gather(l[0], l[1]) }, anyLists, gatherTraps, small, gatherValue},
		{"Put", 2, func(n int, l [][]int) ([]int, api.Errno) { return prim.Put(l[0], l[1]) }, even, putTraps, small, putValue},
		{"Iota", 1, func(n int, l [][]int) ([]int, api.Errno) { return prim.Iota(l[0]) }, anyLists, timesTrap, sumOfLast, iotaValue},
		{"Rep", 2, func(n int, l [][]int) ([]int, api.Errno) { return prim.Rep(l[0], l[1]) }, even, timesTrap, sumOfLast, repValue},
		{"Cat", 2, func(n int, l [][]int) ([]int, api.Errno) { return prim.Cat(l[0], l[1]) }, anyLists, never, sumOfLengths, catValue},
		{"Off", 2, func(n int, l [][]int) ([]int, api.Errno) { return prim.Off(l[0], l[1]) }, anyLists, never, small, offValue},
		{"Len", 1, func(n int, l [][]int) ([]int, api.Errno) { return prim.Len(l[0]) }, anyLists, never, small, lenValue},
		{"Weave", 3, func(n int, l [][]int) ([]int, api.Errno) { return prim.Weave(l) }, even, never, sumOfLengths, weaveValue},
		{"Trap", 1, func(n int, l [][]int) ([]int, api.Errno) { return nil, prim.Trap(l[0]) }, anyLists, flagTraps, small, nothing},
	}
}

// functionOf returns the function of this name.
func functionOf(t *testing.T, name string) function {
	t.Helper()
	all := functions()
	i := slices.IndexFunc(all, func(f function) bool { return f.name == name })
	if i < 0 {
		t.Fatalf("no function %s", name)
	}
	return all[i]
}

func anyLists(l [][]int) bool { return true }

func even(l [][]int) bool {
	for _, a := range l {
		for _, b := range l {
			if len(a) != len(b) {
				return false
			}
		}
	}
	return true
}

// count returns how many numbers of a list are n.
func count(l []int, n int) int {
	many := 0
	for _, m := range l {
		if m == n {
			many++
		}
	}
	return many
}

func mergeFit(l [][]int) bool {
	others := count(l[0], 0)
	return len(l[1]) == len(l[0])-others && len(l[2]) == others
}

func never(n int, l [][]int) bool { return false }

func binTraps(n int, l [][]int) bool {
	return (n == api.OpDiv || n == api.OpMod) && slices.Contains(l[1], 0)
}

func gatherTraps(n int, l [][]int) bool {
	return slices.ContainsFunc(l[1], func(place int) bool { return place < 0 || place >= len(l[0]) })
}

func putTraps(n int, l [][]int) bool {
	for place := range l[0] {
		if count(l[1], place) != 1 {
			return true
		}
	}
	return false
}

func timesTrap(n int, l [][]int) bool { return len(l[len(l)-1]) > 0 && slices.Min(l[len(l)-1]) < 0 }

func flagTraps(n int, l [][]int) bool { return count(l[0], 0) < len(l[0]) }

// small is the size of a result that cannot be too long.
func small(l [][]int) int { return 0 }

func sumOfLast(l [][]int) int {
	sum := 0
	for _, n := range l[len(l)-1] {
		sum += n
	}
	return sum
}

func sumOfLengths(l [][]int) int {
	sum := 0
	for _, a := range l {
		sum += len(a)
	}
	return sum
}

func fillValue(n int, l [][]int) []int { return filled(len(l[0]), n) }

func binValue(n int, l [][]int) []int {
	var value []int
	for i := range l[0] {
		of, _ := word.Do(n, l[0][i], l[1][i])
		value = append(value, of)
	}
	return value
}

func pickValue(n int, l [][]int) []int {
	value := slices.Clone(l[1])
	for i, flag := range l[0] {
		if flag == 0 {
			value[i] = l[2][i]
		}
	}
	return value
}

func packValue(n int, l [][]int) []int {
	value := slices.Clone(l[1])
	for i, flag := range slices.Backward(l[0]) {
		if flag == 0 {
			value = slices.Delete(value, i, i+1)
		}
	}
	return value
}

func mergeValue(n int, l [][]int) []int {
	var value []int
	for i, flag := range l[0] {
		others := count(l[0][:i], 0)
		if flag == 0 {
			value = append(value, l[2][others])
		} else {
			value = append(value, l[1][i-others])
		}
	}
	return value
}

func gatherValue(n int, l [][]int) []int {
	var value []int
	for _, place := range l[1] {
		value = append(value, l[0][place])
	}
	return value
}

func putValue(n int, l [][]int) []int {
	var value []int
	for place := range l[0] {
		value = append(value, l[0][slices.Index(l[1], place)])
	}
	return value
}

func iotaValue(n int, l [][]int) []int {
	var value []int
	for _, long := range l[0] {
		value = append(value, upTo(long)...)
	}
	return value
}

func repValue(n int, l [][]int) []int {
	var value []int
	for i, times := range l[1] {
		value = append(value, filled(times, l[0][i])...)
	}
	return value
}

func catValue(n int, l [][]int) []int { return slices.Concat(l[0], l[1]) }

func offValue(n int, l [][]int) []int {
	var value []int
	for _, m := range l[0] {
		value = append(value, int(int32(m+len(l[1]))))
	}
	return value
}

func lenValue(n int, l [][]int) []int { return list(len(l[0])) }

func weaveValue(n int, l [][]int) []int {
	value := make([]int, sumOfLengths(l))
	for k, a := range l {
		for i, m := range a {
			value[i*len(l)+k] = m
		}
	}
	return value
}

func nothing(n int, l [][]int) []int { return nil }

// expected is what P4.1 says that a function returns.
func (f function) expected(n int, l [][]int) ([]int, api.Errno) {
	if f.name == "Bin" && (n < 0 || n > 11) {
		return nil, api.ErrArg
	}
	if slices.ContainsFunc(l, func(a []int) bool { return len(a) > 1048576 }) {
		return nil, api.ErrLong
	}
	noWord := func(m int) bool { return m < -2147483648 || m > 2147483647 }
	if f.name == "Fill" && noWord(n) || slices.ContainsFunc(l, func(a []int) bool { return slices.ContainsFunc(a, noWord) }) {
		return nil, api.ErrRange
	}
	if !f.fit(l) {
		return nil, api.ErrState
	}
	if f.traps(n, l) {
		return nil, api.ErrTrap
	}
	if f.size(l) > 1048576 {
		return nil, api.ErrFull
	}
	return f.value(n, l), api.OK
}

// check checks that a function returns what is expected.
func (f function) check(t *testing.T, n int, l [][]int) {
	t.Helper()
	wanted, wantErr := f.expected(n, l)
	got, err := f.call(n, l)
	if err != wantErr || !slices.Equal(got, wanted) { // looked at here first: there are too many calls to tell each one
		want(t, tell(f.name, n, l), got, err, wanted, wantErr)
	}
}

// numbers returns numbers for a function: words and others for Fill, all operations and others for Bin, and one for those that have none.
func (f function) numbers() []int {
	switch f.name {
	case "Fill":
		return list(0, 7, -1, low, high, low-1, high+1, math.MinInt, math.MaxInt)
	case "Bin":
		return append(upTo(14), -1, math.MinInt, math.MaxInt)
	}
	return list(0)
}

// P4.1 to P4.5: all short lists of some words and of what is no word.
func TestShortListsByTheirDefinitions(t *testing.T) {
	of := map[int][][]int{
		1: lists(5, -1, 0, 1, 2, 3, high+1),
		2: lists(3, -1, 0, 1, 2, high, low-1),
		3: append(lists(3, -1, 0, 1), list(0, high+1)),
	}
	for _, f := range functions() {
		for _, n := range f.numbers() {
			tuples(f.lists, of[f.lists], func(l [][]int) { f.check(t, n, l) })
		}
	}
}

// P4.5: any number of lists.
func TestWeavesByTheirDefinitions(t *testing.T) {
	f := functionOf(t, "Weave")
	for many := range 5 {
		tuples(many, lists(2, 3, 4, high+1), func(l [][]int) { f.check(t, 0, l) })
	}
}

// P4.1: lists in which several things are wrong, together.
func TestErrorsByTheirDefinitions(t *testing.T) {
	wrong := [][]int{nil, list(0), list(1, 0), list(-1, 2), list(high, high), list(high + 1), list(low-1, 0), filled(most, low-1), filled(most+1, 0), filled(most+1, high+1)}
	for _, f := range functions() {
		for _, n := range f.numbers() {
			if f.name == "Bin" && n > api.OpAdd && n < api.WordOps && n != api.OpDiv {
				continue
			}
			tuples(f.lists, wrong, func(l [][]int) { f.check(t, n, l) })
		}
	}
}

// scattered returns a list of so many words from low on, below high.
func scattered(r *rand.Rand, many, low, high int) []int {
	l := make([]int, many)
	for i := range l {
		l[i] = low + r.Intn(high-low)
	}
	return l
}

// flagsOf returns so many flags; none is set in some of them, and all are in others.
func flagsOf(r *rand.Rand, many int) []int {
	flags := scattered(r, many, -2, 3)
	rare := 1 + r.Intn(6)
	for i := range flags {
		if r.Intn(rare) > 0 {
			flags[i] = 0
		}
	}
	return flags
}

// P4.2 to P4.5: longer lists, of words from all of their range, that fit.
func TestLongerListsByTheirDefinitions(t *testing.T) {
	r := rand.New(rand.NewSource(1))
	for range 400 {
		many := r.Intn(60)
		a, b := scattered(r, many, low, high+1), scattered(r, many, low, high+1)
		flags := flagsOf(r, many)
		others := count(flags, 0)
		calls := map[string][][]int{
			"Fill": several(a), "Bin": several(a, b), "Pick": several(flags, a, b), "Pack": several(flags, a),
			"Merge": several(flags, a[:many-others], b[:others]), "Put": several(a, r.Perm(many)),
			"Iota": several(scattered(r, many, 0, 9)), "Rep": several(a, scattered(r, many, 0, 9)),
			"Cat": several(a, b[:others]), "Off": several(a, flags), "Len": several(a), "Weave": several(a, b, flags), "Trap": several(flags),
			"Gather": several(append(a, 1), scattered(r, r.Intn(60), 0, many+1)),
		}
		for _, f := range functions() {
			for _, n := range f.numbers() {
				f.check(t, n, calls[f.name])
			}
		}
	}
}
