package scan_test

import (
	"math"
	"math/rand"
	"slices"
	"testing"

	"sheafworks/api"
	"sheafworks/scan"
)

// list writes a list of numbers; list() is the list of none.
func list(numbers ...int) []int { return numbers }

// several writes lists.
func several(l ...[]int) [][]int { return l }

// filled returns a list of one number, so many times.
func filled(many, n int) []int { return slices.Repeat(list(n), many) }

// plain and begins write flagged words: without a flag, and with one.
func plain(n int) flagged { return flagged{N: n} }

func begins(n int) flagged { return flagged{Flag: true, N: n} }

// upTo returns the numbers from 0 on, so many.
func upTo(many int) []int {
	numbers := make([]int, many)
	for i := range numbers {
		numbers[i] = i
	}
	return numbers
}

// lists returns all lists of at most so many of some things.
func lists[T any](many int, of ...T) [][]T {
	all := [][]T{nil}
	from := 0
	for range many {
		to := len(all)
		for _, l := range all[from:to] {
			for _, x := range of {
				all = append(all, append(slices.Clone(l), x))
			}
		}
		from = to
	}
	return all
}

// example is a call with its answer.
type example struct {
	call call
	want answer
}

// got writes an answer of lists, ofWord of a word, ofFlags of flagged words, and no of an error.
func got(lists ...[]int) answer { return answer{lists: lists} }

func ofWord(n int) answer { return answer{word: n} }

func ofFlags(flags ...flagged) answer { return answer{flags: flags} }

func no(err api.Errno) answer { return answer{err: err} }

// check checks an example; with an error nothing else is returned.
func (x example) check(t *testing.T) {
	t.Helper()
	if x.want.err != api.OK {
		x.want = x.call.failed(x.want.err)
	}
	x.call.want(t, x.want)
}

// P5.2 to P5.6: the examples of the chapter.
func TestExamples(t *testing.T) {
	tree := several(list(1, 2, 3, 0), list(3, 3), list(6))
	for _, x := range []example{
		{call{name: "Fold", op: api.OpAdd, l: list(1, 2, 3, 4), by: list(2, 0, 2)}, got(list(3, 0, 7))},
		{call{name: "Scan", op: api.OpAdd, l: list(1, 2, 3, 4), by: list(2, 0, 2)}, got(list(0, 1, 0, 3))},
		{call{name: "Through", op: api.OpAdd, l: list(1, 2, 3, 4), by: list(2, 0, 2)}, got(list(1, 3, 3, 7))},
		{call{name: "Scan", op: api.OpMax, l: list(5, 3, 9), by: list(3)}, got(list(low, 5, 5))},
		{call{name: "Fold", op: api.OpMin, by: list(0)}, got(list(high))},
		{call{name: "Fold", op: api.OpSub, l: list(1), by: list(1)}, no(api.ErrNone)},
		{call{name: "Fold", op: api.OpAdd, l: list(1, 2), by: list(1)}, no(api.ErrState)},
		{call{name: "Fold", op: api.OpAdd, l: list(1, 2), by: list(3, -1)}, no(api.ErrState)},
		{call{name: "Tree", op: api.OpMul, l: list(2, 3, 4), by: list(1, 0)}, ofWord(24)},
		{call{name: "Tree", op: api.OpAdd, l: list(7)}, ofWord(7)},
		{call{name: "Tree", op: api.OpAdd}, no(api.ErrState)},
		{call{name: "Tree", op: api.OpAdd, l: list(1, 2), by: list(1)}, no(api.ErrState)},
		{call{name: "Blocks", op: api.OpAdd, l: list(1, 2, 3, 4, 5), n: 2}, got(list(3, 7, 5), list(0, 1, 3, 6, 10))},
		{call{name: "Levels", op: api.OpAdd, l: list(1, 2, 3)}, got(tree...)},
		{call{name: "Levels", op: api.OpAdd}, got(list(0))},
		{call{name: "Down", op: api.OpAdd, levels: tree, n: 3}, got(list(0, 1, 3))},
		{call{name: "Down", op: api.OpAdd, levels: several(tree[0], tree[1], list(7)), n: 3}, no(api.ErrForm)},
		{call{name: "Join", op: api.OpAdd, flags: []flagged{plain(2), begins(3)}}, ofFlags(begins(3))},
		{call{name: "Join", op: api.OpAdd, flags: []flagged{begins(2), plain(3)}}, ofFlags(begins(5))},
		{call{name: "Flagged", op: api.OpAdd, flags: []flagged{plain(1), begins(2), plain(3)}}, ofFlags(plain(1), begins(2), begins(5))},
	} {
		x.check(t)
	}
}

// The document's example of folds by OpMax.
func TestFoldOfTheDocument(t *testing.T) {
	x := example{call{name: "Fold", op: api.OpMax, l: list(7, 8, 9), by: list(2, 0, 1)}, got(list(8, low, 9))}
	x.check(t)
}

// P5.2 to P5.6: of nothing, and of one word.
func TestNothingAndOne(t *testing.T) {
	for _, op := range associative {
		n := neutrals[op]
		for _, x := range []example{
			{call{name: "Fold"}, got(nil)},
			{call{name: "Fold", by: list(0, 0)}, got(list(n, n))},
			{call{name: "Fold", l: list(5), by: list(0, 1, 0)}, got(list(n, 5, n))},
			{call{name: "Fold", l: list(5)}, no(api.ErrState)},
			{call{name: "Scan"}, got(nil)},
			{call{name: "Scan", by: list(0, 0)}, got(nil)},
			{call{name: "Scan", l: list(5), by: list(0, 1, 0)}, got(list(n))},
			{call{name: "Through", by: list(0, 0)}, got(nil)},
			{call{name: "Through", l: list(5), by: list(0, 1, 0)}, got(list(5))},
			{call{name: "Tree", l: list(low)}, ofWord(low)},
			{call{name: "Tree", by: list(0)}, no(api.ErrState)},
			{call{name: "Tree", l: list(5), by: list(0)}, no(api.ErrState)},
			{call{name: "Blocks", n: 1}, got(nil, nil)},
			{call{name: "Blocks", n: most}, got(nil, nil)},
			{call{name: "Blocks", l: list(5), n: 1}, got(list(5), list(n))},
			{call{name: "Blocks", l: list(5), n: most}, got(list(5), list(n))},
			{call{name: "Levels"}, got(list(n))},
			{call{name: "Levels", l: list(5)}, got(list(5))},
			{call{name: "Down", levels: several(list(5))}, got(nil)},
			{call{name: "Down", levels: several(list(5)), n: 1}, got(list(n))},
			{call{name: "Down"}, no(api.ErrForm)},
			{call{name: "Down", levels: several(nil)}, no(api.ErrForm)},
			{call{name: "Flagged"}, ofFlags()},
			{call{name: "Flagged", flags: []flagged{plain(5)}}, ofFlags(plain(5))},
			{call{name: "Flagged", flags: []flagged{begins(5)}}, ofFlags(begins(5))},
			{call{name: "Flagged", flags: []flagged{begins(n)}}, ofFlags(begins(n))},
		} {
			x.call.op = op
			x.check(t)
		}
	}
}

// P5.1 to P5.6: of several errors the one named first.
func TestErrorsInOrder(t *testing.T) {
	long, wild := filled(most+1, high+1), list(1, low-1)
	for _, x := range []example{
		{call{name: "Fold", by: wild, l: filled(most+1, 0)}, no(api.ErrLong)},
		{call{name: "Fold", l: wild, by: filled(most+1, 0)}, no(api.ErrLong)},
		{call{name: "Scan", l: wild, by: long}, no(api.ErrLong)},
		{call{name: "Through", l: long, by: wild}, no(api.ErrLong)},
		{call{name: "Fold", l: wild, by: list(-1)}, no(api.ErrRange)},
		{call{name: "Scan", l: list(1), by: list(high + 1)}, no(api.ErrRange)},
		{call{name: "Through", l: list(1), by: list(-1, high+1)}, no(api.ErrRange)},
		{call{name: "Fold", l: list(1), by: list(math.MaxInt, math.MinInt)}, no(api.ErrRange)},
		{call{name: "Scan", l: list(1), by: list(high, high)}, no(api.ErrState)},
		{call{name: "Through", l: list(1), by: list(0)}, no(api.ErrState)},
		{call{name: "Tree", l: long, by: list(-1)}, no(api.ErrLong)},
		{call{name: "Tree", l: wild, by: list(-1)}, no(api.ErrRange)},
		{call{name: "Tree", l: list(1, 2), by: list(math.MinInt)}, no(api.ErrState)},
		{call{name: "Tree", l: list(1, 2), by: list(math.MaxInt)}, no(api.ErrState)},
		{call{name: "Tree", l: list(1, 2), by: long}, no(api.ErrState)},
		{call{name: "Tree", l: list(1, 2, 3), by: list(0, 1)}, no(api.ErrState)},
		{call{name: "Tree", l: list(1, 2, 3), by: list(2, 0)}, no(api.ErrState)},
		{call{name: "Blocks", l: long}, no(api.ErrLong)},
		{call{name: "Blocks", l: wild, n: 1}, no(api.ErrRange)},
		{call{name: "Blocks", n: 0}, no(api.ErrRange)},
		{call{name: "Blocks", n: most + 1}, no(api.ErrRange)},
		{call{name: "Blocks", l: list(1), n: math.MinInt}, no(api.ErrRange)},
		{call{name: "Blocks", l: list(1), n: math.MaxInt}, no(api.ErrRange)},
		{call{name: "Levels", l: long}, no(api.ErrLong)},
		{call{name: "Levels", l: wild}, no(api.ErrRange)},
		{call{name: "Down", levels: several(list(high + 1)), n: -1}, no(api.ErrForm)},
		{call{name: "Down", levels: several(list(1), nil), n: 1}, no(api.ErrForm)},
		{call{name: "Down", levels: several(list(5)), n: 2}, no(api.ErrRange)},
		{call{name: "Down", levels: several(list(5)), n: -1}, no(api.ErrRange)},
		{call{name: "Join", flags: []flagged{plain(low - 1), begins(0)}}, no(api.ErrRange)},
		{call{name: "Join", flags: []flagged{plain(0), begins(high + 1)}}, no(api.ErrRange)},
		{call{name: "Flagged", flags: slices.Repeat([]flagged{plain(high + 1)}, most+1)}, no(api.ErrLong)},
		{call{name: "Flagged", flags: []flagged{plain(low - 1), begins(0)}}, no(api.ErrRange)},
	} {
		for _, op := range list(api.OpAdd, api.OpXor) {
			x.call.op = op
			x.check(t)
		}
		for op, err := range map[int]api.Errno{api.OpLess: api.ErrNone, api.OpDiv: api.ErrNone, 12: api.ErrArg, -1: api.ErrArg, math.MinInt: api.ErrArg, math.MaxInt: api.ErrArg} {
			x.call.op, x.want = op, no(err)
			x.check(t)
		}
	}
}

// ops returns all operations, and others.
func ops() []int { return append(upTo(14), -1, math.MinInt, math.MaxInt) }

// P5.1, P5.2: all short lists, cut in all ways, and in ways that are none.
func TestSegmentsByTheirDefinitions(t *testing.T) {
	lens := append(lists(3, -1, 0, 1, 2, 3), list(1, high+1), list(low-1), list(high), list(high, high, low))
	for _, l := range append(lists(4, -3, 2, high), list(1, high+1), list(low-1)) {
		for _, by := range lens {
			for _, op := range ops() {
				for _, name := range []string{"Fold", "Scan", "Through"} {
					call{name: name, op: op, l: l, by: by}.check(t)
				}
			}
		}
	}
}

// P5.1, P5.3: all short lists, by all shapes, and by what is none.
func TestTreesByTheirDefinitions(t *testing.T) {
	shapes := append(lists(4, -1, 0, 1, 2, 3), list(0, high+1), list(low-1))
	for _, l := range append(lists(5, -3, 2), list(1, high+1), list(low-1)) {
		for _, by := range shapes {
			for _, op := range ops() {
				call{name: "Tree", op: op, l: l, by: by}.check(t)
			}
		}
	}
}

// P5.1, P5.4, P5.5: all short lists.
func TestBlocksAndLevelsByTheirDefinitions(t *testing.T) {
	for _, l := range append(lists(6, -3, 2, high), list(1, high+1), list(low-1)) {
		for _, op := range ops() {
			call{name: "Levels", op: op, l: l}.check(t)
			for _, n := range list(-1, 0, 1, 2, 3, 4, 6, 7, most, most+1) {
				call{name: "Blocks", op: op, l: l, n: n}.check(t)
			}
		}
	}
}

// spoilt returns levels in which something is not as it was, each time another thing.
func spoilt(levels [][]int) [][][]int {
	all := [][][]int{levels[1:], levels[:len(levels)-1], append(slices.Clone(levels), nil), append(slices.Clone(levels), list(0))}
	for i, level := range levels {
		with := func(other []int) { all = append(all, slices.Concat(levels[:i], several(other), levels[i+1:])) }
		with(nil)
		with(level[1:])
		with(level[:len(level)-1])
		with(append(slices.Clone(level), 0))
		with(append(slices.Clone(level), level...))
		for k, n := range level {
			for _, other := range list(n+1, n-1, n^low, n+1<<32, math.MaxInt) {
				with(slices.Concat(level[:k], list(other), level[k+1:]))
			}
		}
	}
	return all
}

// P5.1, P5.5: levels of short lists, and those that are spoilt.
func TestDownByItsDefinition(t *testing.T) {
	numbers := list(math.MinInt, -1, 0, 1, 2, 3, 4, 5, 8, 9, most, math.MaxInt)
	for _, op := range ops() {
		for _, l := range append(lists(3, -3, 2), list(4, -4, 3, -3, 2), upTo(8)) {
			like := op
			if !slices.Contains(associative, op) {
				like = api.OpAdd // it has no levels of its own
			}
			levels := levelsValue(like, l)
			for _, n := range numbers {
				call{name: "Down", op: op, levels: levels, n: n}.check(t)
			}
			for _, other := range spoilt(levels) {
				call{name: "Down", op: op, levels: other, n: 1}.check(t)
			}
		}
	}
}

// P5.5: all short lists of short levels.
func TestAnyLevelsByTheirDefinition(t *testing.T) {
	for _, levels := range lists(3, lists(2, 0, 1, 2)...) {
		for _, op := range associative {
			for n := range 4 {
				call{name: "Down", op: op, levels: levels, n: n - 1}.check(t)
			}
		}
	}
}

// someFlags returns flagged words, and some that are none.
func someFlags() []flagged {
	var all []flagged
	for _, n := range list(0, 1, -1, 5, low, high, low-1, high+1, math.MinInt, math.MaxInt) {
		all = append(all, plain(n), begins(n))
	}
	return all
}

// P5.1, P5.6
func TestFlaggedByTheirDefinitions(t *testing.T) {
	for _, op := range ops() {
		for _, x := range someFlags() {
			for _, y := range someFlags() {
				call{name: "Join", op: op, flags: []flagged{x, y}}.check(t)
				call{name: "Flagged", op: op, flags: []flagged{x, y, x}}.check(t)
			}
		}
		for _, flags := range lists(5, plain(-3), begins(2), plain(0), begins(0)) {
			call{name: "Flagged", op: op, flags: flags}.check(t)
		}
	}
}

// scattered returns a list of so many words; the same each time for the same numbers.
func scattered(r *rand.Rand, many int) []int {
	l := make([]int, many)
	for i := range l {
		l[i] = int(int32(r.Uint32())) >> r.Intn(32)
	}
	return l
}

// lengthsOf returns lengths of so many words; some are 0.
func lengthsOf(r *rand.Rand, many int) []int {
	var lens []int
	for many > 0 || r.Intn(3) > 0 {
		n := min(many, max(0, r.Intn(12)-3))
		lens = append(lens, n)
		many -= n
	}
	return lens
}

// shapeOf returns a shape for so many words.
func shapeOf(r *rand.Rand, many int) []int {
	var shape []int
	for left := many - 1; left > 0; left-- {
		shape = append(shape, r.Intn(left))
	}
	return shape
}

// P5.2 to P5.6: longer lists.
func TestLongerListsByTheirDefinitions(t *testing.T) {
	r := rand.New(rand.NewSource(1))
	for range 300 {
		many := r.Intn(70)
		l, lens, shape := scattered(r, many), lengthsOf(r, many), shapeOf(r, many)
		flags := make([]flagged, many)
		for i, n := range l {
			flags[i] = flagged{Flag: r.Intn(4) == 0, N: n}
		}
		for _, op := range associative {
			for _, name := range []string{"Fold", "Scan", "Through"} {
				call{name: name, op: op, l: l, by: lens}.check(t)
			}
			levels := levelsValue(op, l)
			for _, c := range []call{
				{name: "Tree", l: l, by: shape}, {name: "Blocks", l: l, n: 1 + r.Intn(20)}, {name: "Levels", l: l},
				{name: "Down", levels: levels, n: many}, {name: "Down", levels: levels, n: len(levels[0])}, {name: "Flagged", flags: flags},
			} {
				c.op = op
				c.check(t)
			}
		}
	}
}

// totals returns the words of a list joined by OpAdd, ahead of each place.
func totals(l []int) []int {
	sums, sum := make([]int, len(l)), 0
	for i, n := range l {
		sums[i] = sum
		sum = int(int32(sum + n))
	}
	return sums
}

// P5.2: lists of as many words as there may be, in one segment, in some, and in as many as there may be.
func TestSegmentsAtTheLimits(t *testing.T) {
	numbers := upTo(most)
	sums := totals(numbers)
	through := append(sums[1:most:most], do(api.OpAdd, sums[most-1], most-1))
	ones, half := filled(most, 1), most/2
	for _, x := range []example{
		{call{name: "Fold", l: numbers, by: list(most)}, got(through[most-1:])},
		{call{name: "Scan", l: numbers, by: list(0, most)}, got(sums)},
		{call{name: "Through", l: numbers, by: list(most, 0)}, got(through)},
		{call{name: "Fold", l: numbers, by: ones}, got(numbers)},
		{call{name: "Scan", l: numbers, by: ones}, got(filled(most, 0))},
		{call{name: "Through", l: numbers, by: ones}, got(numbers)},
		{call{name: "Fold", by: filled(most, 0)}, got(filled(most, 0))},
		{call{name: "Scan", by: filled(most, 0)}, got(nil)},
		{call{name: "Fold", l: ones, by: list(half, half)}, got(list(half, half))},
		{call{name: "Scan", l: ones, by: list(half, half)}, got(slices.Concat(numbers[:half], numbers[:half]))},
		{call{name: "Fold", l: ones, by: list(half, half+1)}, no(api.ErrState)},
		{call{name: "Fold", l: append(numbers, 0), by: list(most, 1)}, no(api.ErrLong)},
		{call{name: "Scan", l: numbers, by: append(ones, 0)}, no(api.ErrLong)},
	} {
		x.check(t)
	}
}

// P5.3: shapes of as many words as there may be.
func TestTreesAtTheLimits(t *testing.T) {
	r := rand.New(rand.NewSource(2))
	l := scattered(r, most)
	first, last := filled(most-1, 0), make([]int, most-1)
	for k := range last {
		last[k] = most - 2 - k
	}
	wanted, err := scan.Fold(api.OpXor, l, list(most))
	if err != api.OK {
		t.Fatalf("error %d", err)
	}
	for _, shape := range several(first, last, shapeOf(r, most)) {
		example{call{name: "Tree", op: api.OpXor, l: l, by: shape}, ofWord(wanted[0])}.check(t)
	}
	last[most-2]++
	example{call{name: "Tree", op: api.OpXor, l: l, by: last}, no(api.ErrState)}.check(t)
	example{call{name: "Tree", op: api.OpXor, l: append(l, 0), by: first}, no(api.ErrLong)}.check(t)
}

// P5.4, P5.6: blocks and flagged words of as many words as there may be.
func TestBlocksAndFlaggedAtTheLimits(t *testing.T) {
	ones, numbers := filled(most, 1), upTo(most)
	flags, through := slices.Repeat([]flagged{plain(1)}, most), make([]flagged, most)
	for i := range through {
		through[i] = plain(i + 1)
	}
	for _, x := range []example{
		{call{name: "Blocks", l: ones, n: 1}, got(ones, numbers)},
		{call{name: "Blocks", l: ones, n: 1 << 10}, got(filled(1<<10, 1<<10), numbers)},
		{call{name: "Blocks", l: ones, n: most - 1}, got(list(most-1, 1), numbers)},
		{call{name: "Blocks", l: ones, n: most}, got(list(most), numbers)},
		{call{name: "Blocks", l: append(ones, 1), n: most}, no(api.ErrLong)},
		{call{name: "Flagged", flags: flags}, ofFlags(through...)},
		{call{name: "Flagged", flags: append(flags, plain(1))}, no(api.ErrLong)},
	} {
		x.check(t)
	}
}

// P5.5: levels of as many words as there may be, and more.
func TestLevelsAtTheLimits(t *testing.T) {
	counts := func(many int) [][]int { // so many ones, each two of a level joined
		var levels [][]int
		for n := 1; many > 0; n *= 2 {
			levels = append(levels, filled(many, n))
			many /= 2
		}
		return levels
	}
	full, more := counts(most), counts(2*most)
	longer := append(filled(most/2+1, 1), filled(most/2-1, 0)...)
	for _, x := range []example{
		{call{name: "Levels", l: full[0]}, got(full...)},
		{call{name: "Levels", l: more[0]}, no(api.ErrLong)},
		{call{name: "Levels", l: longer[:most/2+1]}, got(levelsValue(api.OpAdd, longer)...)},
		{call{name: "Down", levels: full, n: most}, got(upTo(most))},
		{call{name: "Down", levels: full, n: 0}, got(nil)},
		{call{name: "Down", levels: full, n: most + 1}, no(api.ErrRange)},
		{call{name: "Down", levels: full[:20], n: most}, no(api.ErrForm)},
		{call{name: "Down", levels: more, n: 1}, no(api.ErrForm)},
		{call{name: "Down", levels: slices.Repeat(several(list(0)), most), n: 1}, no(api.ErrForm)},
	} {
		x.check(t)
	}
}
