package word_test

import (
	"math"
	"math/big"
	"strconv"
	"strings"
	"testing"

	"sheafworks/api"
	"sheafworks/word"
)

const (
	low  = api.WordLow
	high = api.WordHigh
)

// edges are words at which operations turn or wrap.
var edges = []int{low, low + 1, low + 2, -65537, -65536, -65535, -46341, -46340, -10, -9, -8, -7, -3, -2, -1, 0, 1, 2, 3, 7, 8, 9, 10, 46340, 46341, 65535, 65536, 65537, high - 2, high - 1, high}

// noWords are numbers outside the words.
var noWords = []int{low - 1, high + 1, 1 << 32, -1 << 32, math.MaxInt, math.MinInt}

// noOps are numbers of no operation.
var noOps = []int{-1, api.WordOps, 100, math.MaxInt, math.MinInt}

// samples returns the edges and some scattered words; the same ones each time.
func samples(many int) []int {
	words := append([]int(nil), edges...)
	state := uint64(1)
	for range many {
		state = state*6364136223846793005 + 1442695040888963407
		words = append(words, int(int32(state>>32))>>(state>>27&31))
	}
	return words
}

// cut returns the word of an exact number.
func cut(n *big.Int) int {
	rest := new(big.Int).Mod(n, big.NewInt(1<<32))
	return int(int32(uint32(rest.Uint64())))
}

// quotient returns the greatest number that is not greater than a divided by b.
func quotient(a, b int) *big.Int {
	q, r := new(big.Int).QuoRem(big.NewInt(int64(a)), big.NewInt(int64(b)), new(big.Int))
	if r.Sign() != 0 && r.Sign() != big.NewInt(int64(b)).Sign() {
		q.Sub(q, big.NewInt(1))
	}
	return q
}

// bits joins two words bit by bit, by how many of the two have a bit.
func bits(a, b int, has func(count int) bool) int {
	n := big.NewInt(0)
	for i := range 32 {
		if has(int(uint32(a)>>i&1) + int(uint32(b)>>i&1)) {
			n.SetBit(n, i, 1)
		}
	}
	return cut(n)
}

// expected returns the value of two words by the chapter's table, in numbers of any size.
func expected(op, a, b int) (int, api.Errno) {
	x, y := big.NewInt(int64(a)), big.NewInt(int64(b))
	if b == 0 && (op == api.OpDiv || op == api.OpMod) {
		return 0, api.ErrTrap
	}
	switch op {
	case api.OpAdd:
		return cut(x.Add(x, y)), api.OK
	case api.OpSub:
		return cut(x.Sub(x, y)), api.OK
	case api.OpMul:
		return cut(x.Mul(x, y)), api.OK
	case api.OpDiv:
		return cut(quotient(a, b)), api.OK
	case api.OpMod:
		return cut(x.Sub(x, y.Mul(y, quotient(a, b)))), api.OK
	case api.OpLess:
		return truth(x.Cmp(y) < 0), api.OK
	case api.OpSame:
		return truth(x.Cmp(y) == 0), api.OK
	case api.OpMin:
		if x.Cmp(y) < 0 {
			return a, api.OK
		}
		return b, api.OK
	case api.OpMax:
		if x.Cmp(y) > 0 {
			return a, api.OK
		}
		return b, api.OK
	case api.OpAnd:
		return bits(a, b, func(count int) bool { return count == 2 }), api.OK
	case api.OpOr:
		return bits(a, b, func(count int) bool { return count > 0 }), api.OK
	case api.OpXor:
		return bits(a, b, func(count int) bool { return count == 1 }), api.OK
	}
	return 0, api.ErrArg
}

func truth(holds bool) int {
	if holds {
		return 1
	}
	return 0
}

// P1.1
func TestIs(t *testing.T) {
	for _, n := range samples(200) {
		if !word.Is(n) {
			t.Errorf("Is(%d) is false", n)
		}
	}
	for _, n := range noWords {
		if word.Is(n) {
			t.Errorf("Is(%d) is true", n)
		}
	}
}

// P1.2
func TestDoExamples(t *testing.T) {
	for _, x := range []struct {
		op, a, b, want int
		err            api.Errno
	}{
		{api.OpAdd, 2147483647, 1, low, api.OK},
		{api.OpMul, 65536, 65536, 0, api.OK},
		{api.OpSub, 0, low, low, api.OK},
		{api.OpDiv, 7, -2, -4, api.OK},
		{api.OpMod, 7, -2, -1, api.OK},
		{api.OpDiv, -7, 2, -4, api.OK},
		{api.OpMod, -7, 2, 1, api.OK},
		{api.OpDiv, low, -1, low, api.OK},
		{api.OpMod, low, -1, 0, api.OK},
		{api.OpDiv, 1, 0, 0, api.ErrTrap},
		{api.OpMod, 0, 0, 0, api.ErrTrap},
		{12, 0, 0, 0, api.ErrArg},
		{api.OpAdd, 2147483648, 0, 0, api.ErrRange},
		{api.OpLess, -1, 0, 1, api.OK},
		{api.OpSame, 3, 3, 1, api.OK},
		{api.OpMin, -5, 2, -5, api.OK},
		{api.OpMax, -5, 2, 2, api.OK},
		{api.OpAnd, -2, 7, 6, api.OK},
		{api.OpOr, -2, 1, -1, api.OK},
		{api.OpXor, -1, 5, -6, api.OK},
	} {
		if n, err := word.Do(x.op, x.a, x.b); n != x.want || err != x.err {
			t.Errorf("Do(%d, %d, %d) is %d, %d; want %d, %d", x.op, x.a, x.b, n, err, x.want, x.err)
		}
	}
}

// P1.2
func TestDoAgainstExactNumbers(t *testing.T) {
	words := samples(60)
	for op := range api.WordOps {
		for _, a := range words {
			for _, b := range words {
				want, wantErr := expected(op, a, b)
				if n, err := word.Do(op, a, b); n != want || err != wantErr {
					t.Fatalf("Do(%d, %d, %d) is %d, %d; want %d, %d", op, a, b, n, err, want, wantErr)
				}
			}
		}
	}
}

// P1.2
func TestDoErrorsInOrder(t *testing.T) {
	check := func(op, a, b int, want api.Errno) {
		if n, err := word.Do(op, a, b); n != 0 || err != want {
			t.Errorf("Do(%d, %d, %d) is %d, %d; want 0, %d", op, a, b, n, err, want)
		}
	}
	for _, no := range noWords {
		for op := range api.WordOps {
			check(op, no, 0, api.ErrRange)
			check(op, 1, no, api.ErrRange)
			check(op, no, no, api.ErrRange)
		}
		for _, op := range noOps {
			check(op, no, no, api.ErrArg)
			check(op, 1, 0, api.ErrArg)
		}
	}
}

// facts are what the chapter says of the operations.
var facts = []struct {
	op      int
	name    string
	laws    api.WordLaws
	neutral int
}{
	{api.OpAdd, "+", api.WordLaws{Assoc: true, Commutes: true}, 0},
	{api.OpSub, "-", api.WordLaws{}, 0},
	{api.OpMul, "*", api.WordLaws{Assoc: true, Commutes: true}, 1},
	{api.OpDiv, "/", api.WordLaws{}, 0},
	{api.OpMod, "%", api.WordLaws{}, 0},
	{api.OpLess, "<", api.WordLaws{}, 0},
	{api.OpSame, "=", api.WordLaws{Commutes: true}, 0},
	{api.OpMin, "min", api.WordLaws{Assoc: true, Commutes: true, Idem: true}, high},
	{api.OpMax, "max", api.WordLaws{Assoc: true, Commutes: true, Idem: true}, low},
	{api.OpAnd, "&", api.WordLaws{Assoc: true, Commutes: true, Idem: true}, -1},
	{api.OpOr, "|", api.WordLaws{Assoc: true, Commutes: true, Idem: true}, 0},
	{api.OpXor, "^", api.WordLaws{Assoc: true, Commutes: true}, 0},
}

// P1.3
func TestLawsAndNeutral(t *testing.T) {
	for _, x := range facts {
		if laws, err := word.Laws(x.op); laws != x.laws || err != api.OK {
			t.Errorf("Laws(%d) is %v, %d; want %v", x.op, laws, err, x.laws)
		}
		want := api.OK
		if !x.laws.Assoc {
			want = api.ErrNone
		}
		if n, err := word.Neutral(x.op); n != x.neutral || err != want {
			t.Errorf("Neutral(%d) is %d, %d; want %d, %d", x.op, n, err, x.neutral, want)
		}
	}
	for _, op := range noOps {
		if laws, err := word.Laws(op); laws != (api.WordLaws{}) || err != api.ErrArg {
			t.Errorf("Laws(%d) is %v, %d", op, laws, err)
		}
		if n, err := word.Neutral(op); n != 0 || err != api.ErrArg {
			t.Errorf("Neutral(%d) is %d, %d", op, n, err)
		}
	}
}

// P1.4
func TestPowerExamples(t *testing.T) {
	for _, x := range []struct {
		op, a, n, want int
		err            api.Errno
	}{
		{api.OpAdd, 3, 1000000000, -1294967296, api.OK},
		{api.OpMul, 3, 5, 243, api.OK},
		{api.OpXor, 7, 1 << 62, 0, api.OK},
		{api.OpMul, 2, 32, 0, api.OK},
		{api.OpSub, 1, 1, 0, api.ErrNone},
		{api.OpAdd, 1, math.MaxInt, -1, api.OK},
		{api.OpMul, -1, math.MaxInt, -1, api.OK},
		{api.OpMul, -1, math.MaxInt - 1, 1, api.OK},
		{api.OpXor, 7, math.MaxInt, 7, api.OK},
		{api.OpMin, 5, math.MaxInt, 5, api.OK},
		{api.OpMax, low, math.MaxInt, low, api.OK},
		{api.OpAnd, high, 1 << 62, high, api.OK},
		{api.OpOr, low, 1 << 62, low, api.OK},
	} {
		if n, err := word.Power(x.op, x.a, x.n); n != x.want || err != x.err {
			t.Errorf("Power(%d, %d, %d) is %d, %d; want %d, %d", x.op, x.a, x.n, n, err, x.want, x.err)
		}
	}
}

// P1.4
func TestPowerByItsDefinition(t *testing.T) {
	for _, x := range facts {
		if !x.laws.Assoc {
			continue
		}
		for _, a := range samples(40) {
			want := x.neutral
			for n := range 70 {
				if got, err := word.Power(x.op, a, n); got != want || err != api.OK {
					t.Fatalf("Power(%d, %d, %d) is %d, %d; want %d", x.op, a, n, got, err, want)
				}
				want, _ = expected(x.op, a, want)
			}
		}
	}
}

// P1.4
func TestPowerErrorsInOrder(t *testing.T) {
	check := func(op, a, n int, want api.Errno) {
		if got, err := word.Power(op, a, n); got != 0 || err != want {
			t.Errorf("Power(%d, %d, %d) is %d, %d; want 0, %d", op, a, n, got, err, want)
		}
	}
	for _, op := range noOps {
		check(op, high+1, -1, api.ErrArg)
		check(op, 1, 1, api.ErrArg)
	}
	for _, x := range facts {
		want := api.ErrRange
		if !x.laws.Assoc {
			want = api.ErrNone
		}
		for _, no := range noWords {
			check(x.op, no, 0, want)
			check(x.op, no, 1, want)
			check(x.op, no, -1, want)
		}
		check(x.op, 1, -1, want)
		check(x.op, 1, math.MinInt, want)
	}
}

// P1.5
func TestInverse(t *testing.T) {
	for _, x := range []struct{ a, want int }{{3, -1431655765}, {-1, -1}, {1, 1}, {high, high}, {low + 1, low + 1}} {
		if n, err := word.Inverse(x.a); n != x.want || err != api.OK {
			t.Errorf("Inverse(%d) is %d, %d; want %d", x.a, n, err, x.want)
		}
	}
	for _, a := range samples(3000) {
		n, err := word.Inverse(a)
		if a%2 == 0 {
			if n != 0 || err != api.ErrNone {
				t.Errorf("Inverse(%d) is %d, %d; want 0, %d", a, n, err, api.ErrNone)
			}
			continue
		}
		one, _ := expected(api.OpMul, a, n)
		if one != 1 || n < low || n > high || err != api.OK {
			t.Errorf("Inverse(%d) is %d, %d: the product is %d", a, n, err, one)
		}
	}
	for _, no := range noWords {
		if n, err := word.Inverse(no); n != 0 || err != api.ErrRange {
			t.Errorf("Inverse(%d) is %d, %d", no, n, err)
		}
	}
}

// P1.6
func TestKeys(t *testing.T) {
	for _, x := range []struct{ n, key int }{{low, 0}, {low + 1, 1}, {-1, 2147483647}, {0, 1 << 31}, {high, 1<<32 - 1}} {
		if key, err := word.Key(x.n); key != x.key || err != api.OK {
			t.Errorf("Key(%d) is %d, %d; want %d", x.n, key, err, x.key)
		}
		if n, err := word.OfKey(x.key); n != x.n || err != api.OK {
			t.Errorf("OfKey(%d) is %d, %d; want %d", x.key, n, err, x.n)
		}
	}
	for _, no := range noWords {
		if key, err := word.Key(no); key != 0 || err != api.ErrRange {
			t.Errorf("Key(%d) is %d, %d", no, key, err)
		}
	}
	for _, no := range []int{-1, 1 << 32, low, math.MaxInt, math.MinInt} {
		if n, err := word.OfKey(no); n != 0 || err != api.ErrRange {
			t.Errorf("OfKey(%d) is %d, %d", no, n, err)
		}
	}
}

// P1.7
func TestTexts(t *testing.T) {
	for _, n := range samples(300) {
		want := big.NewInt(int64(n)).String()
		if s, err := word.Text(n); s != want || err != api.OK {
			t.Errorf("Text(%d) is %q, %d", n, s, err)
		}
		if got, err := word.Parse(want); got != n || err != api.OK {
			t.Errorf("Parse(%q) is %d, %d", want, got, err)
		}
	}
	for _, no := range noWords {
		if s, err := word.Text(no); s != "" || err != api.ErrRange {
			t.Errorf("Text(%d) is %q, %d", no, s, err)
		}
	}
}

// P1.7
func TestParseRefuses(t *testing.T) {
	for _, s := range []string{
		"", "-", "--", "-0", "00", "007", "-007", "+1", "+0", "--1", "1-", "-1-", " 1", "1 ", "1\n", "1\x00",
		"2147483648", "-2147483649", "4294967296", "-4294967295", "9223372036854775808", "18446744073709551617",
		"1e3", "1.0", "1_000", "0x1", "0b1", "x", "a1", ":", "/", "1:", "1/",
		"\u0663", "1\u0663", "\uff11", "\u22121", "\xff", "1\xff", "\ufffd", "\U0001d7d9",
		strings.Repeat("1", 100000), "-" + strings.Repeat("9", 100000), strings.Repeat("0", 100000),
	} {
		if n, err := word.Parse(s); n != 0 || err != api.ErrForm {
			t.Errorf("Parse(%.20q) is %d, %d", s, n, err)
		}
	}
}

// P1.7: all short texts of some characters, by whether writing what they say gives them back.
func TestParseShortTexts(t *testing.T) {
	texts := []string{""}
	for range 5 {
		for _, s := range texts {
			want := api.ErrForm
			n, bad := strconv.Atoi(s)
			if bad == nil && strconv.Itoa(n) == s {
				want = api.OK
			} else {
				n = 0
			}
			if got, err := word.Parse(s); got != n || err != want {
				t.Fatalf("Parse(%q) is %d, %d; want %d, %d", s, got, err, n, want)
			}
		}
		var longer []string
		for _, s := range texts {
			for _, c := range []string{"-", "+", "0", "1", "9", " ", "/", ":"} {
				longer = append(longer, s+c)
			}
		}
		texts = longer
	}
}

// P1.8
func TestNames(t *testing.T) {
	for _, x := range facts {
		if s, err := word.Name(x.op); s != x.name || err != api.OK {
			t.Errorf("Name(%d) is %q, %d; want %q", x.op, s, err, x.name)
		}
		if op, err := word.Op(x.name); op != x.op || err != api.OK {
			t.Errorf("Op(%q) is %d, %d; want %d", x.name, op, err, x.op)
		}
	}
	for _, op := range noOps {
		if s, err := word.Name(op); s != "" || err != api.ErrArg {
			t.Errorf("Name(%d) is %q, %d", op, s, err)
		}
	}
	for _, s := range []string{"", " ", "++", "+ ", "mi", "mini", "Min", "MAX", "**", "&&", "==", "0", "\x00", "\xff"} {
		if op, err := word.Op(s); op != 0 || err != api.ErrNone {
			t.Errorf("Op(%q) is %d, %d", s, op, err)
		}
	}
}
