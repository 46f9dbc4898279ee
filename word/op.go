package word

import "sheafworks/api"

// fact is what is known of an operation; neutral is 0 if it has no neutral word.
type fact struct {
	name    string
	laws    api.WordLaws
	neutral int
}

var facts = [api.WordOps]fact{
	{"+", api.WordLaws{Assoc: true, Commutes: true}, 0},
	{"-", api.WordLaws{}, 0},
	{"*", api.WordLaws{Assoc: true, Commutes: true}, 1},
	{"/", api.WordLaws{}, 0},
	{"%", api.WordLaws{}, 0},
	{"<", api.WordLaws{}, 0},
	{"=", api.WordLaws{Commutes: true}, 0},
	{"min", api.WordLaws{Assoc: true, Commutes: true, Idem: true}, api.WordHigh},
	{"max", api.WordLaws{Assoc: true, Commutes: true, Idem: true}, api.WordLow},
	{"&", api.WordLaws{Assoc: true, Commutes: true, Idem: true}, -1},
	{"|", api.WordLaws{Assoc: true, Commutes: true, Idem: true}, 0},
	{"^", api.WordLaws{Assoc: true, Commutes: true}, 0},
}

// Name returns the name of an operation.
func Name(op int) (string, api.Errno) {
	if !isOp(op) {
		return "", api.ErrArg
	}
	return facts[op].name, api.OK
}

// Op returns the operation of a name.
func Op(name string) (int, api.Errno) {
	ops := map[string]int{
		"+": api.OpAdd, "-": api.OpSub, "*": api.OpMul,
		"/": api.OpDiv, "%": api.OpMod,
		"<": api.OpLess, "=": api.OpSame,
		"min": api.OpMin, "max": api.OpMax,
		"&": api.OpAnd, "|": api.OpOr, "^": api.OpXor,
	}
	op, ok := ops[name]
	if !ok {
		return 0, api.ErrNone
	}
	return op, api.OK
}

// isOp reports whether a number is that of an operation.
func isOp(op int) bool { return op >= 0 && op < api.WordOps }

// traps reports whether an operation traps at a second word.
func traps(op, b int) bool { return b == 0 && (op == api.OpDiv || op == api.OpMod) }

// value returns what an operation makes of two words; it must not trap at them.
func value(op, a, b int) int {
	table := [api.WordOps]func(pair) int{
		api.OpAdd:  pair.sum,
		api.OpSub:  pair.difference,
		api.OpMul:  pair.product,
		api.OpDiv:  pair.quotient,
		api.OpMod:  pair.remainder,
		api.OpLess: pair.less,
		api.OpSame: pair.same,
		api.OpMin:  pair.least,
		api.OpMax:  pair.most,
		api.OpAnd:  pair.both,
		api.OpOr:   pair.some,
		api.OpXor:  pair.one,
	}
	return wrap(table[op](pair{a, b}))
}

// pair is two words. The results of its methods are exact: with 64 bits none overflows.
type pair struct{ a, b int }

func (p pair) sum() int { return p.a + p.b }

func (p pair) difference() int { return p.a - p.b }

func (p pair) product() int { return p.a * p.b }

// quotient rounds down, where Go's division rounds to 0.
func (p pair) quotient() int {
	q, r := p.a/p.b, p.a%p.b
	if r != 0 && (r < 0) != (p.b < 0) {
		q--
	}
	return q
}

func (p pair) remainder() int { return p.a - p.b*p.quotient() }

func (p pair) less() int { return truth(p.a < p.b) }

func (p pair) same() int { return truth(p.a == p.b) }

func (p pair) least() int { return min(p.a, p.b) }

func (p pair) most() int { return max(p.a, p.b) }

func (p pair) both() int { return p.a & p.b }

func (p pair) some() int { return p.a | p.b }

func (p pair) one() int { return p.a ^ p.b }

// truth returns the word that says whether something holds.
func truth(holds bool) int {
	if holds {
		return 1
	}
	return 0
}
