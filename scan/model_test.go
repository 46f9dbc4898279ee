package scan_test

import (
	"slices"
	"strconv"
	"strings"
	"testing"

	"sheafworks/api"
	"sheafworks/scan"
	"sheafworks/word"
)

const (
	most = api.VecMost
	low  = api.WordLow
	high = api.WordHigh
)

// flagged is a flagged word.
type flagged = api.ScanFlag

// call is a call of a function of the package; what the function has not is not looked at.
type call struct {
	name   string
	op     int
	l      []int
	by     []int // lengths, or a shape
	n      int   // the size of blocks, or how many words
	levels [][]int
	flags  []flagged // of Join both
}

// answer is what a call returned; what the function does not return is nothing.
type answer struct {
	word  int
	lists [][]int
	flags []flagged
	err   api.Errno
}

// do calls the function.
func (c call) do() answer {
	var a answer
	switch c.name {
	case "Fold":
		a.lists = make([][]int, 1)
		a.lists[0], a.err = scan.Fold(c.op, c.l, c.by)
	case "Scan":
		a.lists = make([][]int, 1)
		a.lists[0], a.err = scan.Scan(c.op, c.l, c.by)
	case "Through":
		a.lists = make([][]int, 1)
		a.lists[0], a.err = scan.Through(c.op, c.l, c.by)
	case "Tree":
		a.word, a.err = scan.Tree(c.op, c.l, c.by)
	case "Blocks":
		a.lists = make([][]int, 2)
		a.lists[0], a.lists[1], a.err = scan.Blocks(c.op, c.l, c.n)
	case "Levels":
		a.lists, a.err = scan.Levels(c.op, c.l)
	case "Down":
		a.lists = make([][]int, 1)
		a.lists[0], a.err = scan.Down(c.op, c.levels, c.n)
	case "Join":
		a.flags = make([]flagged, 1)
		a.flags[0], a.err = scan.Join(c.op, c.flags[0], c.flags[1])
	case "Flagged":
		a.flags, a.err = scan.Flagged(c.op, c.flags)
	}
	return a
}

// expected is what the chapter says that the call returns, as slowly as it is said.
func (c call) expected() answer {
	if err := c.expectedErr(); err != api.OK {
		return c.failed(err)
	}
	switch c.name {
	case "Fold":
		return answer{lists: [][]int{foldValue(c)}}
	case "Scan":
		return answer{lists: [][]int{scanValue(c, 0)}}
	case "Through":
		return answer{lists: [][]int{scanValue(c, 1)}}
	case "Tree":
		return answer{word: treeValue(c)}
	case "Blocks":
		return answer{lists: blocksValue(c)}
	case "Levels":
		return answer{lists: levelsValue(c.op, c.l)}
	case "Down":
		return answer{lists: [][]int{downValue(c.op, c.levels)[:c.n]}}
	case "Join":
		return answer{flags: []flagged{joinValue(c.op, c.flags[0], c.flags[1])}}
	}
	return answer{flags: flaggedValue(c)}
}

// failed is the answer with an error: all else is of its zero value.
func (c call) failed(err api.Errno) answer {
	a := answer{err: err}
	switch c.name {
	case "Fold", "Scan", "Through", "Down":
		a.lists = make([][]int, 1)
	case "Blocks":
		a.lists = make([][]int, 2)
	case "Join":
		a.flags = make([]flagged, 1)
	}
	return a
}

// neutrals are the neutral words of the operations that have one.
var neutrals = map[int]int{api.OpAdd: 0, api.OpMul: 1, api.OpMin: 2147483647, api.OpMax: -2147483648, api.OpAnd: -1, api.OpOr: 0, api.OpXor: 0}

// associative are the operations that have a neutral word.
var associative = []int{api.OpAdd, api.OpMul, api.OpMin, api.OpMax, api.OpAnd, api.OpOr, api.OpXor}

func noWord(n int) bool { return n < -2147483648 || n > 2147483647 }

// wordErr returns the errors of lists of words.
func wordErr(lists ...[]int) api.Errno {
	for _, l := range lists {
		if len(l) > 1048576 {
			return api.ErrLong
		}
	}
	if slices.ContainsFunc(slices.Concat(lists...), noWord) {
		return api.ErrRange
	}
	return api.OK
}

// expectedErr returns the first error that the chapter names.
func (c call) expectedErr() api.Errno {
	if c.op < 0 || c.op > 11 {
		return api.ErrArg
	}
	if _, has := neutrals[c.op]; !has {
		return api.ErrNone
	}
	switch c.name {
	case "Fold", "Scan", "Through":
		return segmentErr(c)
	case "Tree":
		return treeErr(c)
	case "Blocks":
		if err := wordErr(c.l); err != api.OK || c.n > 0 && c.n <= 1048576 {
			return err
		}
		return api.ErrRange
	case "Levels":
		return wordErr(c.l)
	case "Down":
		return downErr(c)
	}
	if c.name == "Flagged" && len(c.flags) > 1048576 {
		return api.ErrLong
	}
	if slices.ContainsFunc(c.flags, func(x flagged) bool { return noWord(x.N) }) {
		return api.ErrRange
	}
	return api.OK
}

func segmentErr(c call) api.Errno {
	if err := wordErr(c.l, c.by); err != api.OK {
		return err
	}
	total := 0
	for _, n := range c.by {
		total += n
	}
	if total != len(c.l) || len(c.by) > 0 && slices.Min(c.by) < 0 {
		return api.ErrState
	}
	return api.OK
}

func treeErr(c call) api.Errno {
	if err := wordErr(c.l); err != api.OK {
		return err
	}
	n := len(c.l)
	if n == 0 || len(c.by) != n-1 {
		return api.ErrState
	}
	for k, place := range c.by {
		if place < 0 || place > n-2-k {
			return api.ErrState
		}
	}
	return api.OK
}

func downErr(c call) api.Errno {
	if len(c.levels) == 0 || wordErr(c.levels[0]) != api.OK {
		return api.ErrForm
	}
	if !sameLists(c.levels, levelsValue(c.op, c.levels[0])) {
		return api.ErrForm
	}
	if c.n < 0 || c.n > len(c.levels[0]) {
		return api.ErrRange
	}
	return api.OK
}

// do returns what an operation makes of two words.
func do(op, a, b int) int {
	n, err := word.Do(op, a, b)
	if err != api.OK {
		panic("no words")
	}
	return n
}

// joined returns words joined.
func joined(op int, l []int) int {
	switch last := len(l) - 1; last {
	case -1:
		return neutrals[op]
	case 0:
		return l[0]
	default:
		return do(op, joined(op, l[:last]), l[last])
	}
}

// cut returns the segments of a list.
func cut(l, lens []int) [][]int {
	var parts [][]int
	for _, n := range lens {
		parts = append(parts, l[:n])
		l = l[n:]
	}
	return parts
}

func foldValue(c call) []int {
	var value []int
	for _, part := range cut(c.l, c.by) {
		value = append(value, joined(c.op, part))
	}
	return value
}

// scanValue is the words joined ahead of each place of a segment, or those with so many more.
func scanValue(c call, more int) []int {
	var value []int
	for _, part := range cut(c.l, c.by) {
		for i := range part {
			value = append(value, joined(c.op, part[:i+more]))
		}
	}
	return value
}

func treeValue(c call) int {
	left := slices.Clone(c.l)
	for _, i := range c.by {
		left = slices.Replace(left, i, i+2, do(c.op, left[i], left[i+1]))
	}
	return left[0]
}

func blocksValue(c call) [][]int {
	var sums []int
	for l := c.l; len(l) > 0; {
		n := min(c.n, len(l))
		sums = append(sums, joined(c.op, l[:n]))
		l = l[n:]
	}
	c.by = []int{len(c.l)}
	return [][]int{sums, scanValue(c, 0)}
}

func levelsValue(op int, l []int) [][]int {
	first := slices.Clone(l)
	for bits := len(first); len(first) == 0 || bits&(bits-1) != 0; bits = len(first) {
		first = append(first, neutrals[op])
	}
	if len(first) == 1 {
		return [][]int{first}
	}
	var next []int
	for i := 0; i < len(first); i += 2 {
		next = append(next, joined(op, first[i:i+2]))
	}
	return append([][]int{first}, levelsValue(op, next)...)
}

func downValue(op int, levels [][]int) []int {
	if len(levels) == 1 {
		return []int{neutrals[op]}
	}
	var stands []int
	for i, n := range downValue(op, levels[1:]) {
		stands = append(stands, n, do(op, n, levels[0][2*i]))
	}
	return stands
}

func joinValue(op int, x, y flagged) flagged {
	if y.Flag {
		return flagged{Flag: true, N: y.N}
	}
	return flagged{Flag: x.Flag, N: do(op, x.N, y.N)}
}

func flaggedValue(c call) []flagged {
	var value []flagged
	for i := range c.flags {
		all := c.flags[0]
		for _, x := range c.flags[1 : i+1] {
			all = joinValue(c.op, all, x)
		}
		value = append(value, all)
	}
	return value
}

// sameLists reports whether lists are the same; a nil list is an empty one.
func sameLists(a, b [][]int) bool {
	return slices.EqualFunc(a, b, func(x, y []int) bool { return slices.Equal(x, y) })
}

// same reports whether answers are the same.
func (a answer) same(b answer) bool {
	return a.word == b.word && a.err == b.err && slices.Equal(a.flags, b.flags) && sameLists(a.lists, b.lists)
}

// short tells a list, of a long one its beginning.
func short(l []int) string {
	var s strings.Builder
	for i, n := range l {
		if i == 30 {
			return s.String() + " .. (" + strconv.Itoa(len(l)) + ")"
		}
		s.WriteString(" " + strconv.Itoa(n))
	}
	return "[" + s.String() + " ]"
}

// shorts tells lists.
func shorts(lists [][]int) string {
	s := ""
	for _, l := range lists[:min(6, len(lists))] {
		s += short(l)
	}
	return s + " (" + strconv.Itoa(len(lists)) + ")"
}

// shortFlags tells flagged words; a flag is an f.
func shortFlags(flags []flagged) string {
	s := "["
	for _, x := range flags[:min(30, len(flags))] {
		s += " " + strings.Repeat("f", truth(x.Flag)) + strconv.Itoa(x.N)
	}
	return s + " ] (" + strconv.Itoa(len(flags)) + ")"
}

func truth(holds bool) int {
	if holds {
		return 1
	}
	return 0
}

// String tells a call.
func (c call) String() string {
	switch c.name {
	case "Down":
		return c.name + " " + strconv.Itoa(c.op) + ", " + shorts(c.levels) + ", " + strconv.Itoa(c.n)
	case "Join", "Flagged":
		return c.name + " " + strconv.Itoa(c.op) + ", " + shortFlags(c.flags)
	}
	return c.name + " " + strconv.Itoa(c.op) + ", " + short(c.l) + ", " + short(c.by) + ", " + strconv.Itoa(c.n)
}

// String tells an answer.
func (a answer) String() string {
	return strconv.Itoa(a.word) + ", " + shorts(a.lists) + ", " + shortFlags(a.flags) + ", error " + strconv.Itoa(int(a.err))
}

// want checks that a call returns what is wanted.
func (c call) want(t *testing.T, wanted answer) {
	t.Helper()
	if got := c.do(); !got.same(wanted) {
		t.Errorf("%s: %s; want %s", c, got, wanted)
	}
}

// check checks that a call returns what the chapter says.
func (c call) check(t *testing.T) {
	t.Helper()
	c.want(t, c.expected())
}
