package rank_test

import (
	"slices"
	"strconv"
	"strings"
	"testing"

	"sheafworks/api"
	"sheafworks/rank"
)

const (
	most = api.VecMost
	low  = api.WordLow
	high = api.WordHigh
)

// call is a call of a function of the package; what the function has not is not looked at.
type call struct {
	name string
	l    []int // places, flags or words
	by   []int // lengths, or a second list
	bits int
}

// answer is what a call returned; what the function does not return is nothing.
type answer struct {
	first, second []int
	err           api.Errno
}

// do calls the function.
func (c call) do() answer {
	var a answer
	switch c.name {
	case "Check":
		a.err = rank.Check(c.l)
	case "Inverse":
		a.first, a.err = rank.Inverse(c.l)
	case "Compose":
		a.first, a.err = rank.Compose(c.l, c.by)
	case "Split":
		a.first, a.err = rank.Split(c.l, c.by)
	case "Passes":
		a.first, a.err = rank.Passes(c.l, c.by, c.bits)
	case "Order":
		a.first, a.err = rank.Order(c.l, c.by)
	case "Merge":
		a.first, a.second, a.err = rank.Merge(c.l, c.by)
	case "Ranks":
		a.first, a.err = rank.Ranks(c.l, c.by)
	case "Firsts":
		a.first, a.second, a.err = rank.Firsts(c.l, c.by)
	}
	return a
}

// expected is what the chapter says that the call returns, as slowly as it is said.
func (c call) expected() answer {
	if err := c.expectedErr(); err != api.OK {
		return answer{err: err}
	}
	switch c.name {
	case "Inverse":
		return answer{first: inverseValue(c.l)}
	case "Compose":
		return answer{first: composeValue(c.l, c.by)}
	case "Split":
		return answer{first: splitValue(c.l, c.by)}
	case "Passes":
		return answer{first: passesValue(c.l, c.by, c.bits)}
	case "Order":
		return answer{first: orderValue(c.l, c.by)}
	case "Merge":
		return mergeValue(c.l, c.by)
	case "Ranks":
		return answer{first: ranksValue(c.l, c.by)}
	case "Firsts":
		return firstsValue(c.l, c.by)
	}
	return answer{}
}

// expectedErr returns the first error that the chapter names.
func (c call) expectedErr() api.Errno {
	switch c.name {
	case "Check", "Inverse":
		return placesErr(c.l)
	case "Compose":
		for _, places := range several(c.l, c.by) {
			if err := placesErr(places); err != api.OK {
				return err
			}
		}
		if len(c.l) != len(c.by) {
			return api.ErrState
		}
		return api.OK
	case "Merge":
		return mergeErr(c.l, c.by)
	}
	if err := segmentErr(c.l, c.by); err != api.OK {
		return err
	}
	if c.name == "Passes" && (c.bits < 0 || c.bits > 32) {
		return api.ErrRange
	}
	return api.OK
}

func placesErr(places []int) api.Errno {
	if len(places) > 1048576 {
		return api.ErrLong
	}
	for place := range places {
		if count(places, func(n int) bool { return n == place }) != 1 {
			return api.ErrArg
		}
	}
	return api.OK
}

func noWord(n int) bool { return n < -2147483648 || n > 2147483647 }

func segmentErr(l, lens []int) api.Errno {
	if len(l) > 1048576 || len(lens) > 1048576 {
		return api.ErrLong
	}
	if slices.ContainsFunc(l, noWord) || slices.ContainsFunc(lens, noWord) {
		return api.ErrRange
	}
	total := 0
	for _, n := range lens {
		total += n
	}
	if total != len(l) || len(lens) > 0 && slices.Min(lens) < 0 {
		return api.ErrState
	}
	return api.OK
}

func mergeErr(a, b []int) api.Errno {
	if len(a)+len(b) > 1048576 {
		return api.ErrLong
	}
	if slices.ContainsFunc(a, noWord) || slices.ContainsFunc(b, noWord) {
		return api.ErrRange
	}
	if falls(a) || falls(b) {
		return api.ErrOrder
	}
	return api.OK
}

// falls reports whether some word is less than the one before it.
func falls(l []int) bool {
	for i := range l {
		if i > 0 && l[i] < l[i-1] {
			return true
		}
	}
	return false
}

// count returns how many words of a list are of a kind.
func count(l []int, is func(n int) bool) int {
	many := 0
	for _, n := range l {
		if is(n) {
			many++
		}
	}
	return many
}

func less(than int) func(int) bool { return func(n int) bool { return n < than } }

func same(as int) func(int) bool { return func(n int) bool { return n == as } }

func isZero(n int) bool { return n == 0 }

// cut returns the segments of a list.
func cut(l, lens []int) [][]int {
	var parts [][]int
	for _, n := range lens {
		parts = append(parts, l[:n])
		l = l[n:]
	}
	return parts
}

// bySegments returns what a function makes of each element of a segment, with the place at which the segment begins added.
func bySegments(l, lens []int, of func(part []int, i int) int) []int {
	var value []int
	for _, part := range cut(l, lens) {
		begin := len(value)
		for i := range part {
			value = append(value, begin+of(part, i))
		}
	}
	return value
}

func inverseValue(places []int) []int {
	var value []int
	for place := range places {
		value = append(value, slices.Index(places, place))
	}
	return value
}

func composeValue(first, second []int) []int {
	var value []int
	for _, place := range first {
		value = append(value, second[place])
	}
	return value
}

func splitValue(flags, lens []int) []int {
	return bySegments(flags, lens, func(part []int, i int) int {
		zeros := count(part[:i], isZero)
		if part[i] == 0 {
			return zeros
		}
		return count(part, isZero) + i - zeros
	})
}

// bitOf returns the bit k of a word.
func bitOf(n, k int) int {
	key := n + 2147483648
	for range k {
		key /= 2
	}
	return key % 2
}

// bitsOf returns the bits k of words.
func bitsOf(l []int, k int) []int {
	var bits []int
	for _, n := range l {
		bits = append(bits, bitOf(n, k))
	}
	return bits
}

// moved returns a list, each element at the place to which it goes.
func moved(l, places []int) []int {
	value := make([]int, len(l))
	for i, place := range places {
		value[place] = l[i]
	}
	return value
}

func passesValue(l, lens []int, bits int) []int {
	places := upTo(len(l))
	for k := range bits {
		split := splitValue(bitsOf(l, k), lens)
		l = moved(l, split)
		places = composeValue(places, split)
	}
	return places
}

func orderValue(l, lens []int) []int {
	return bySegments(l, lens, func(part []int, i int) int {
		return count(part, less(part[i])) + count(part[:i], same(part[i]))
	})
}

func mergeValue(a, b []int) answer {
	var value answer
	for i, n := range a {
		value.first = append(value.first, i+count(b, less(n)))
	}
	for i, n := range b {
		value.second = append(value.second, i+count(a, less(n))+count(a, same(n)))
	}
	return value
}

func ranksValue(l, lens []int) []int {
	var value []int
	for _, part := range cut(l, lens) {
		for _, n := range part {
			different := map[int]bool{}
			for _, other := range part {
				if other < n {
					different[other] = true
				}
			}
			value = append(value, len(different))
		}
	}
	return value
}

func firstsValue(l, lens []int) answer {
	var value answer
	begin := 0
	for _, part := range cut(l, lens) {
		many := 0
		for i, n := range part {
			if !slices.Contains(part[:i], n) {
				value.first = append(value.first, begin+i)
				many++
			}
		}
		value.second = append(value.second, many)
		begin += len(part)
	}
	return value
}

// same reports whether answers are the same; a nil list is an empty one.
func (a answer) same(b answer) bool {
	return a.err == b.err && slices.Equal(a.first, b.first) && slices.Equal(a.second, b.second)
}

// short tells a list, of a long one its beginning.
func short(l []int) string {
	var s strings.Builder
	for i, n := range l {
		if i == 30 {
			return s.String() + " .. (" + strconv.Itoa(len(l)) + ")"
		}
		s.WriteString(" " + strconv.Itoa(n))
	}
	return "[" + s.String() + " ]"
}

// String tells a call.
func (c call) String() string {
	return c.name + " " + short(c.l) + ", " + short(c.by) + ", " + strconv.Itoa(c.bits)
}

// String tells an answer.
func (a answer) String() string {
	return short(a.first) + ", " + short(a.second) + ", error " + strconv.Itoa(int(a.err))
}

// want checks that a call returns what is wanted.
func (c call) want(t *testing.T, wanted answer) {
	t.Helper()
	if got := c.do(); !got.same(wanted) {
		t.Errorf("%s: %s; want %s", c, got, wanted)
	}
}

// check checks that a call returns what the chapter says.
func (c call) check(t *testing.T) {
	t.Helper()
	c.want(t, c.expected())
}
