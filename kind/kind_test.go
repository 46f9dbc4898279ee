package kind_test

import (
	"math"
	"slices"
	"strconv"
	"strings"
	"testing"

	"sheafworks/api"
	"sheafworks/kind"
)

var (
	unit   = api.Type{Kind: api.TypeUnit}
	number = api.Type{Kind: api.TypeInt}
)

func types(l ...api.Type) []api.Type { return l }

func list(numbers ...int) []int { return numbers }

func variable(n int) api.Type { return api.Type{Kind: api.TypeVar, N: n} }

func pairOf(a, b api.Type) api.Type { return api.Type{Kind: api.TypePair, L: types(a, b)} }

func sumOf(a, b api.Type) api.Type { return api.Type{Kind: api.TypeSum, L: types(a, b)} }

func funOf(a, b api.Type) api.Type { return api.Type{Kind: api.TypeFun, L: types(a, b)} }

func seqOf(a api.Type) api.Type { return api.Type{Kind: api.TypeSeq, L: types(a)} }

// deep returns a type of so many levels: sequences of sequences.
func deep(levels int, inner api.Type) api.Type {
	for range levels - 1 {
		inner = seqOf(inner)
	}
	return inner
}

// broad returns a type of so many types, on few levels: pairs, within a sequence if the number is even.
func broad(size int, inner api.Type) api.Type {
	if size == 1 {
		return inner
	}
	if size%2 == 0 {
		return seqOf(broad(size-1, inner))
	}
	first := (size-1)/2 | 1
	return pairOf(broad(first, inner), broad(size-1-first, inner))
}

// endless returns a type that has itself in it.
func endless(kind int) api.Type {
	t := api.Type{Kind: kind, L: make([]api.Type, partsOf(kind))}
	for i := range t.L {
		t.L[i] = t
	}
	return t
}

// is returns the type of a text.
func is(s string) api.Type {
	t, rest, ok := readValue(s)
	if !ok || rest != "" || textValue(t) != s {
		panic(s)
	}
	return t
}

// binds reads bindings: `0 int; 3 [int]`.
func binds(s string) []api.KindBind {
	var l []api.KindBind
	if s == "" {
		return l
	}
	for _, part := range strings.Split(s, "; ") {
		v, text, _ := strings.Cut(part, " ")
		n, err := strconv.Atoi(v)
		if err != nil {
			panic(s)
		}
		l = append(l, api.KindBind{Var: n, Type: is(text)})
	}
	return l
}

// call is a call of a function of the package; what the function has not is not looked at.
type call struct {
	name string
	a, b api.Type
	l    []api.KindBind
	s    string
}

// names are all functions with types.
var names = []string{"Check", "Ground", "Own", "Data", "Vars", "Put", "Unify", "Match", "Common", "Number", "Text"}

// answer is what a call returned; what the function does not return is nothing.
type answer struct {
	number int // also of a bool
	vars   []int
	binds  []api.KindBind
	t      api.Type
	s      string
	err    api.Errno
}

func no(err api.Errno) answer { return answer{err: err} }

// do calls the function.
func (c call) do() (x answer) {
	switch c.name {
	case "Check":
		x.err = kind.Check(c.a)
	case "Ground":
		x.number = asNumber(kind.Ground(c.a))
	case "Own":
		x.number = kind.Own(c.a)
	case "Data":
		x.number = kind.Data(c.a)
	case "Vars":
		x.vars, x.err = kind.Vars(c.a)
	case "Put":
		x.t, x.err = kind.Put(c.l, c.a)
	case "Unify":
		x.binds, x.err = kind.Unify(c.a, c.b)
	case "Match":
		x.binds, x.err = kind.Match(c.a, c.b)
	case "Common":
		x.t, x.err = kind.Common(c.a, c.b)
	case "Number":
		x.t, x.err = kind.Number(c.a)
	case "Text":
		x.s, x.err = kind.Text(c.a)
	case "Parse":
		x.t, x.err = kind.Parse(c.s)
	}
	return x
}

func asNumber(yes bool) int {
	if yes {
		return 1
	}
	return 0
}

// value returns what the chapter says that the call returns.
func (c call) value() answer {
	switch c.name {
	case "Ground":
		return answer{number: asNumber(groundValue(c.a))}
	case "Own", "Data":
		if !groundValue(c.a) {
			return answer{number: -1}
		}
		if c.name == "Own" {
			return answer{number: ownValue(c.a)}
		}
		return answer{number: dataValue(c.a)}
	case "Parse":
		t, err := parseValue(c.s)
		if err != api.OK {
			return no(err)
		}
		return answer{t: t}
	}
	if !validValue(c.a) || c.takesTwo() && !validValue(c.b) || c.name == "Put" && !validBindings(c.l) {
		return no(api.ErrArg)
	}
	switch c.name {
	case "Vars":
		return answer{vars: varsValue(c.a)}
	case "Put":
		if t := putValue(c.l, c.a); validValue(t) {
			return answer{t: t}
		}
		return no(api.ErrFull)
	case "Unify":
		return bound(unifyValue(c.a, c.b))
	case "Match":
		return bound(matchValue(c.a, c.b))
	case "Common":
		return answer{t: commonValue(putValue(nil, c.a), putValue(nil, c.b))}
	case "Number":
		return answer{t: numberValue(c.a)}
	case "Text":
		return answer{s: textValue(c.a)}
	}
	return answer{}
}

// takesTwo reports whether the function has two types.
func (c call) takesTwo() bool { return c.name == "Unify" || c.name == "Match" || c.name == "Common" }

// bound returns the answer of bindings, if there are any.
func bound(l []api.KindBind, ok bool) answer {
	if !ok {
		return no(api.ErrType)
	}
	if slices.ContainsFunc(l, func(b api.KindBind) bool { return !validValue(b.Type) }) {
		return no(api.ErrFull)
	}
	return answer{binds: l}
}

// isSame reports whether two answers are the same, N of all types in them too; a nil list is an empty one.
func (x answer) isSame(y answer) bool {
	bindSame := func(b, c api.KindBind) bool { return b.Var == c.Var && isEqual(b.Type, c.Type) }
	return x.number == y.number && slices.Equal(x.vars, y.vars) && slices.EqualFunc(x.binds, y.binds, bindSame) && isEqual(x.t, y.t) && x.s == y.s && x.err == y.err
}

func isEqual(a, b api.Type) bool {
	return a.Kind == b.Kind && a.N == b.N && slices.EqualFunc(a.L, b.L, isEqual)
}

// want checks what the call returns.
func (c call) want(t *testing.T, want answer) {
	t.Helper()
	if got := c.do(); !got.isSame(want) {
		t.Errorf("%s of %v, %v, %v, %q: %v; want %v", c.name, c.a, c.b, c.l, c.s, got, want)
	}
}

// check checks that the call returns what the chapter says.
func (c call) check(t *testing.T) {
	t.Helper()
	c.want(t, c.value())
}

type example struct {
	call
	answer
}

func checkAll(t *testing.T, all ...example) {
	t.Helper()
	for _, x := range all {
		x.call.want(t, x.answer)
	}
}

// P8.1 to P8.8: the chapter's examples.
func TestExamples(t *testing.T) {
	p, q, r := is("('0 * ['1])"), is("(['2] * '3)"), is("((int + unit) * [[int]])")
	f := is("('5 -> ('2 -> '5))")
	checkAll(t, []example{
		{call{name: "Unify", a: p, b: q}, answer{binds: binds("0 ['2]; 3 ['1]")}},
		{call{name: "Unify", a: is("('0 * '1)"), b: is("('1 * '2)")}, answer{binds: binds("1 '0; 2 '0")}},
		{call{name: "Unify", a: is("'0"), b: is("['0]")}, no(api.ErrType)},
		{call{name: "Unify", a: number, b: unit}, no(api.ErrType)},
		{call{name: "Match", a: p, b: r}, answer{binds: binds("0 (int + unit); 1 [int]")}},
		{call{name: "Match", a: is("('0 * '0)"), b: is("(int * unit)")}, no(api.ErrType)},
		{call{name: "Common", a: is("(int * [int])"), b: is("(unit * [unit])")}, answer{t: is("('0 * ['0])")}},
		{call{name: "Common", a: p, b: r}, answer{t: p}},
		{call{name: "Number", a: f}, answer{t: is("('0 -> ('1 -> '0))")}},
		{call{name: "Vars", a: f}, answer{vars: list(5, 2)}},
		{call{name: "Put", l: binds("0 ['0]"), a: is("('0 * '1)")}, answer{t: is("(['0] * '1)")}},
		{call{name: "Own", a: r}, answer{number: 4}},
		{call{name: "Data", a: r}, answer{number: 3}},
		{call{name: "Own", a: p}, answer{number: -1}},
		{call{name: "Data", a: p}, answer{number: -1}},
		{call{name: "Parse", s: "( int * unit)"}, no(api.ErrForm)},
		{call{name: "Parse", s: "'01"}, no(api.ErrForm)},
		{call{name: "Parse", s: "'7"}, answer{t: variable(7)}},
		{call{name: "Parse", s: "'1000"}, no(api.ErrForm)},
	}...)
}

// goodTypes are valid types, some of them as great as they may be.
func goodTypes() []api.Type {
	return types(
		unit, number, variable(0), variable(999), seqOf(unit), pairOf(unit, number), sumOf(number, variable(1)), funOf(variable(999), unit),
		deep(12, unit), deep(12, variable(3)), deep(11, pairOf(unit, number)), broad(59, number), broad(60, number), broad(60, variable(7)),
		funOf(broad(29, number), seqOf(broad(29, unit))), sumOf(deep(11, unit), deep(11, variable(2))),
		api.Type{Kind: api.TypeUnit, N: -1}, api.Type{Kind: api.TypeInt, N: math.MaxInt, L: types()}, api.Type{Kind: api.TypeSeq, N: math.MinInt, L: types(number)},
		api.Type{Kind: api.TypeFun, N: 1000, L: types(unit, api.Type{Kind: api.TypeInt, N: -5})},
	)
}

// badTypes are types that are not valid.
func badTypes() []api.Type {
	bad := types(
		variable(-1), variable(1000), variable(math.MinInt), variable(math.MaxInt),
		api.Type{Kind: -1}, api.Type{Kind: 7}, api.Type{Kind: math.MinInt}, api.Type{Kind: math.MaxInt}, api.Type{Kind: 7, L: types(unit)},
		deep(13, unit), deep(13, variable(0)), deep(12, seqOf(number)), sumOf(unit, deep(12, unit)), broad(61, number), broad(61, variable(0)), broad(1001, unit), deep(1000, unit),
		funOf(broad(29, number), broad(31, unit)),
	)
	for kind := range 7 {
		for parts := range 4 {
			if parts != partsOf(kind) {
				bad = append(bad, api.Type{Kind: kind, L: slices.Repeat(types(unit), parts)})
			}
		}
	}
	return bad
}

// immenseTypes are types that are not valid, with too much in them to look at all of it.
func immenseTypes() []api.Type {
	all := types(endless(api.TypeSeq), endless(api.TypePair), endless(api.TypeFun))
	parts := make([]api.Type, 1<<20)
	for kind := range 7 {
		all = append(all, api.Type{Kind: kind, L: parts})
	}
	return all
}

// within returns types with each of these types in them, and these types.
func within(l []api.Type) []api.Type {
	for _, t := range l {
		l = append(l, seqOf(t), pairOf(unit, t), sumOf(t, variable(0)), funOf(number, seqOf(t)))
	}
	return l
}

// P8.1, P8.2: valid and ground types, and their registers.
func TestValidTypes(t *testing.T) {
	for _, a := range goodTypes() {
		if !validValue(a) {
			t.Fatalf("%v is not valid", a)
		}
		call{name: "Check", a: a}.want(t, answer{})
		for _, name := range names {
			if name != "Common" { // its definition is too slow for great types
				call{name: name, a: a, b: a, l: binds("2 int")}.check(t)
			}
		}
		call{name: "Common", a: a, b: a}.want(t, answer{t: numberValue(a)})
	}
	for _, x := range []struct {
		text      string
		own, data int
	}{
		{"unit", 0, 0}, {"int", 1, 0}, {"(unit * unit)", 0, 0}, {"(int * int)", 2, 0}, {"([int] * int)", 3, 1}, {"(unit + unit)", 1, 0}, {"(int + int)", 3, 0},
		{"(int + [int])", 4, 1}, {"([[int]] + [[int]])", 5, 6}, {"[unit]", 2, 0}, {"[int]", 2, 1}, {"[[int]]", 2, 3}, {"[(int + [int])]", 2, 5}, {"[([[int]] * unit)]", 2, 5},
		{"(int -> int)", -1, -1}, {"'0", -1, -1}, {"[(unit -> unit)]", -1, -1}, {"(int * ['0])", -1, -1}, {"((unit -> int) + int)", -1, -1}, {"('0 * '1)", -1, -1},
	} {
		a := is(x.text)
		checkAll(t, example{call{name: "Own", a: a}, answer{number: x.own}}, example{call{name: "Data", a: a}, answer{number: x.data}}, example{call{name: "Ground", a: a}, answer{number: asNumber(x.own >= 0)}})
	}
	checkAll(t, example{call{name: "Own", a: broad(59, number)}, answer{number: 30}}, example{call{name: "Data", a: broad(60, number)}, answer{number: 30}}, example{call{name: "Data", a: deep(12, number)}, answer{number: 21}})
}

// P8.1, P8.2, and ErrArg ahead of all else, at each place.
func TestTypesThatAreNotValid(t *testing.T) {
	minus := answer{number: -1}
	for i, bad := range within(append(badTypes(), immenseTypes()...)) {
		good := types(unit, number, variable(0), broad(60, unit))[i%4]
		checkAll(t, []example{
			{call{name: "Check", a: bad}, no(api.ErrArg)}, {call{name: "Ground", a: bad}, answer{}}, {call{name: "Own", a: bad}, minus}, {call{name: "Data", a: bad}, minus},
			{call{name: "Vars", a: bad}, no(api.ErrArg)}, {call{name: "Number", a: bad}, no(api.ErrArg)}, {call{name: "Text", a: bad}, no(api.ErrArg)}, {call{name: "Put", a: bad}, no(api.ErrArg)},
			{call{name: "Put", a: good, l: []api.KindBind{{Var: 5, Type: unit}, {Var: 6, Type: bad}}}, no(api.ErrArg)},
		}...)
		for _, name := range []string{"Unify", "Match", "Common"} {
			checkAll(t, example{call{name: name, a: bad, b: good}, no(api.ErrArg)}, example{call{name: name, a: good, b: bad}, no(api.ErrArg)}, example{call{name: name, a: bad, b: bad}, no(api.ErrArg)})
		}
	}
}

// P8.3, P8.7
func TestVariablesOfTypes(t *testing.T) {
	for _, x := range []struct {
		text, numbered string
		vars           []int
	}{
		{"int", "int", nil},
		{"'0", "'0", list(0)},
		{"'999", "'0", list(999)},
		{"(('3 * '1) -> ('1 + '3))", "(('0 * '1) -> ('1 + '0))", list(3, 1)},
		{"('1 * '0)", "('0 * '1)", list(1, 0)},
		{"([('7 + int)] -> ('8 * ('7 * '0)))", "([('0 + int)] -> ('1 * ('0 * '2)))", list(7, 8, 0)},
	} {
		checkAll(t, example{call{name: "Vars", a: is(x.text)}, answer{vars: x.vars}}, example{call{name: "Number", a: is(x.text)}, answer{t: is(x.numbered)}})
	}
}

// P8.4
func TestPut(t *testing.T) {
	var every []api.KindBind
	for v := range 1000 {
		every = append(every, api.KindBind{Var: v, Type: variable(999 - v)})
	}
	checkAll(t, []example{
		{call{name: "Put", l: binds(""), a: is("('0 * '1)")}, answer{t: is("('0 * '1)")}},
		{call{name: "Put", l: binds("0 '1; 1 '0"), a: is("('0 * '1)")}, answer{t: is("('1 * '0)")}},
		{call{name: "Put", l: binds("1 ('0 -> '2); 0 '1"), a: is("['1]")}, answer{t: is("[('0 -> '2)]")}},
		{call{name: "Put", l: binds("7 int"), a: is("('0 * '1)")}, answer{t: is("('0 * '1)")}},
		{call{name: "Put", l: every, a: is("('0 * '999)")}, answer{t: is("('999 * '0)")}},
		{call{name: "Put", l: append(every, every[0]), a: unit}, no(api.ErrArg)},
		{call{name: "Put", l: binds("0 int; 1 int; 0 int"), a: unit}, no(api.ErrArg)},
		{call{name: "Put", l: []api.KindBind{{Var: -1, Type: unit}}, a: unit}, no(api.ErrArg)},
		{call{name: "Put", l: []api.KindBind{{Var: 1000, Type: unit}}, a: unit}, no(api.ErrArg)},
		{call{name: "Put", l: []api.KindBind{{Var: 999, Type: api.Type{N: 7}}}, a: seqOf(variable(999))}, answer{t: seqOf(unit)}},
		{call{name: "Put", l: []api.KindBind{{Var: 0, Type: deep(11, unit)}}, a: seqOf(variable(0))}, answer{t: deep(12, unit)}},
		{call{name: "Put", l: []api.KindBind{{Var: 0, Type: deep(12, unit)}}, a: seqOf(variable(0))}, no(api.ErrFull)},
		{call{name: "Put", l: []api.KindBind{{Var: 0, Type: deep(12, unit)}}, a: seqOf(variable(1))}, answer{t: seqOf(variable(1))}},
		{call{name: "Put", l: []api.KindBind{{Var: 0, Type: broad(29, number)}}, a: seqOf(pairOf(variable(0), variable(0)))}, answer{t: seqOf(pairOf(broad(29, number), broad(29, number)))}},
		{call{name: "Put", l: []api.KindBind{{Var: 0, Type: broad(29, number)}}, a: pairOf(variable(0), seqOf(seqOf(variable(0))))}, no(api.ErrFull)},
		{call{name: "Put", l: []api.KindBind{{Var: 0, Type: broad(60, variable(0))}}, a: broad(60, variable(0))}, no(api.ErrFull)},
		{call{name: "Put", l: []api.KindBind{{Var: 0, Type: deep(12, unit)}}, a: badTypes()[0]}, no(api.ErrArg)},
	}...)
}

// P8.5
func TestUnify(t *testing.T) {
	for _, x := range []struct{ a, b, want string }{
		{"int", "int", ""},
		{"'5", "'5", ""},
		{"'5", "'3", "5 '3"},
		{"'0", "unit", "0 unit"},
		{"('0 * int)", "('0 * '1)", "1 int"},
		{"('2 * ('1 * '0))", "('1 * ('0 * '2))", "1 '0; 2 '0"},
		{"(('9 * '8) * ('7 * '9))", "(('8 * '7) * ('6 * int))", "6 int; 7 int; 8 int; 9 int"},
		{"('0 * '1)", "(['1] * [int])", "0 [[int]]; 1 [int]"},
		{"(('0 * '1) -> '2)", "('2 -> ('3 * '3))", "1 '0; 2 ('0 * '0); 3 '0"},
		{"('3 * ('4 * '5))", "(['4] * (['5] * (unit + '0)))", "3 [[(unit + '0)]]; 4 [(unit + '0)]; 5 (unit + '0)"},
	} {
		checkAll(t, example{call{name: "Unify", a: is(x.a), b: is(x.b)}, answer{binds: binds(x.want)}}, example{call{name: "Unify", a: is(x.b), b: is(x.a)}, answer{binds: binds(x.want)}})
	}
	for _, x := range []struct{ a, b string }{
		{"int", "unit"}, {"[int]", "int"}, {"(int * int)", "(int + int)"}, {"(int -> int)", "(int * int)"}, {"('0 * '0)", "(int * unit)"}, {"('0 * '1)", "(['1] * ['0])"},
		{"('0 * ('1 * '2))", "(['1] * (['2] * ['0]))"}, {"('0 * '0)", "('1 * ['1])"}, {"(('0 * '1) * '0)", "('2 * ('2 * int))"},
		{"('0 * ('1 * '0))", "(['0] * (['1] * '1))"}, {"('0 * ('1 * '0))", "(('1 * '0) * (('0 * '1) * '1))"},
	} {
		checkAll(t, example{call{name: "Unify", a: is(x.a), b: is(x.b)}, no(api.ErrType)}, example{call{name: "Unify", a: is(x.b), b: is(x.a)}, no(api.ErrType)})
	}
}

// chain returns the equations of a list of variables, from one number on: each of them is two of the next one. Both types have all of them, a and b at their ends.
func chain(from, many int, a, b api.Type) (first, second api.Type) {
	if many == 0 {
		return a, b
	}
	half := many / 2
	next := variable(from + half + 1)
	one, two := chain(from, half, variable(from+half), pairOf(next, next))
	three, four := chain(from+half+1, many-half-1, a, b)
	return pairOf(one, three), pairOf(two, four)
}

// P8.5: bindings that are too great, also when the types are not, and errors in order.
func TestUnifyOfGreatTypes(t *testing.T) {
	both := func(e api.Errno, a, b api.Type) {
		t.Helper()
		checkAll(t, example{call{name: "Unify", a: a, b: b}, no(e)}, example{call{name: "Unify", a: b, b: a}, no(e)})
	}
	// The first variable is 2^14 times the last one, or that and what does not fit.
	a, b := chain(0, 14, variable(20), variable(14))
	both(api.ErrFull, a, b)
	a, b = chain(0, 13, pairOf(variable(20), number), pairOf(variable(0), unit))
	both(api.ErrType, a, b)
	a, b = chain(0, 13, pairOf(variable(13), unit), pairOf(variable(0), unit))
	both(api.ErrType, a, b)
	a, b = chain(0, 4, variable(4), unit)
	call{name: "Unify", a: a, b: b}.check(t) // 31 types in the first one
	if x := (call{name: "Unify", a: a, b: b}).do(); len(x.binds) != 5 || sizeOf(x.binds[0].Type) != 31 {
		t.Errorf("%v", x)
	}
	a, b = chain(0, 5, variable(5), unit)
	both(api.ErrFull, a, b)
	// Of two lists of variables both first ones are the same.
	a, b = chain(0, 6, variable(30), variable(0))
	c, d := chain(10, 6, variable(30), variable(10))
	both(api.ErrFull, pairOf(a, c), pairOf(b, d))
	// A binding may be as great as a type may be, but no greater; what the types become may be greater.
	checkAll(t, []example{
		{call{name: "Unify", a: variable(0), b: deep(12, unit)}, answer{binds: []api.KindBind{{Var: 0, Type: deep(12, unit)}}}},
		{call{name: "Unify", a: pairOf(variable(0), variable(0)), b: pairOf(broad(58, number), variable(1))}, answer{binds: []api.KindBind{{Var: 0, Type: broad(58, number)}, {Var: 1, Type: broad(58, number)}}}},
		{call{name: "Unify", a: deep(12, variable(0)), b: deep(12, number)}, answer{binds: binds("0 int")}},
		{call{name: "Unify", a: deep(12, variable(0)), b: deep(11, variable(1))}, answer{binds: binds("1 ['0]")}},
	}...)
	both(api.ErrFull, pairOf(variable(0), variable(1)), pairOf(deep(8, variable(1)), deep(6, unit)))
	call{name: "Unify", a: pairOf(variable(0), variable(1)), b: pairOf(deep(8, variable(1)), deep(5, unit))}.check(t)
	both(api.ErrType, pairOf(variable(0), pairOf(variable(1), number)), pairOf(deep(8, variable(1)), pairOf(deep(6, unit), unit)))
}

// P8.6
func TestMatch(t *testing.T) {
	for _, x := range []struct{ a, b, want string }{
		{"int", "int", ""},
		{"'5", "'5", "5 '5"},
		{"'0", "['0]", "0 ['0]"},
		{"('0 * '1)", "('1 * '0)", "0 '1; 1 '0"},
		{"('1 * '0)", "(int * (unit -> '1))", "0 (unit -> '1); 1 int"},
		{"(['2] * ('2 + '7))", "([['0]] * (['0] + '2))", "2 ['0]; 7 '2"},
	} {
		call{name: "Match", a: is(x.a), b: is(x.b)}.want(t, answer{binds: binds(x.want)})
	}
	for _, x := range []struct{ a, b string }{
		{"int", "unit"}, {"int", "'0"}, {"['0]", "'0"}, {"('0 * '0)", "('0 * '1)"}, {"('0 * '0)", "(['1] * [int])"}, {"('0 * int)", "(int * '0)"}, {"('0 -> '1)", "('0 * '1)"}, {"('0 * '0)", "('1 * int)"},
	} {
		call{name: "Match", a: is(x.a), b: is(x.b)}.want(t, no(api.ErrType))
	}
	odd := api.Type{Kind: api.TypePair, N: 3, L: types(api.Type{Kind: api.TypeInt, N: 9}, api.Type{Kind: api.TypeInt, N: -9})}
	checkAll(t, []example{
		{call{name: "Match", a: is("('0 * '0)"), b: odd}, answer{binds: binds("0 int")}},
		{call{name: "Match", a: is("'7"), b: odd}, answer{binds: binds("7 (int * int)")}},
		{call{name: "Unify", a: is("'7"), b: odd}, answer{binds: binds("7 (int * int)")}},
		{call{name: "Unify", a: is("(int * int)"), b: odd}, answer{}},
		{call{name: "Common", a: is("(int * int)"), b: odd}, answer{t: is("(int * int)")}},
		{call{name: "Number", a: odd}, answer{t: is("(int * int)")}},
		{call{name: "Text", a: odd}, answer{s: "(int * int)"}},
		{call{name: "Put", a: odd}, answer{t: is("(int * int)")}},
		{call{name: "Match", a: variable(0), b: broad(60, variable(9))}, answer{binds: []api.KindBind{{Var: 0, Type: broad(60, variable(9))}}}},
	}...)
}

// P8.7
func TestCommon(t *testing.T) {
	for _, x := range []struct{ a, b, want string }{
		{"int", "int", "int"},
		{"int", "unit", "'0"},
		{"'5", "'5", "'0"},
		{"'5", "'6", "'0"},
		{"('5 * '6)", "('6 * '5)", "('0 * '1)"},
		{"('5 * '5)", "('5 * '6)", "('0 * '1)"},
		{"(int * int)", "(unit * unit)", "('0 * '0)"},
		{"(int * unit)", "(unit * int)", "('0 * '1)"},
		{"(int * int)", "(int + int)", "'0"},
		{"[[int]]", "[(int -> int)]", "['0]"},
		{"((int -> [unit]) * [unit])", "((unit -> int) * int)", "(('0 -> '1) * '1)"},
		{"(unit + (int * '3))", "(unit + (['0] * int))", "(unit + ('0 * '1))"},
	} {
		call{name: "Common", a: is(x.a), b: is(x.b)}.want(t, answer{t: is(x.want)})
	}
	checkAll(t, []example{
		{call{name: "Common", a: broad(60, number), b: broad(60, unit)}, answer{t: broad(60, variable(0))}},
		{call{name: "Common", a: deep(12, number), b: deep(11, variable(4))}, answer{t: deep(11, variable(0))}},
	}...)
}

// P8.8
func TestTexts(t *testing.T) {
	for _, s := range []string{
		"unit", "int", "'0", "'10", "'999", "[int]", "(int * unit)", "(int + unit)", "(int -> unit)", "((int * unit) + [('0 -> '12)])", "[[[unit]]]",
	} {
		checkAll(t, example{call{name: "Text", a: is(s)}, answer{s: s}}, example{call{name: "Parse", s: s}, answer{t: is(s)}})
	}
	for _, s := range []string{
		"", " ", "u", "unit ", " unit", "Unit", "units", "unitunit", "in", "integer", "int\n", "0", "'", "'a", "'-1", "'+1", "'00", "'01", "'007", "' 1", "'1 ", "'1'", "'1000", "'9999999999999999999999", "'99a", "\"0",
		"[", "[]", "[int", "int]", "[int]]", "[ int]", "[int ]", "[int * int]", "[int, int]", "(", "()", "(int)", "(int", "(int ", "(int *", "(int * ", "(int * unit", "(int *unit)", "(int* unit)", "(int*unit)", "(int  * unit)",
		"(int * unit )", "( int * unit)", "(int * unit))", "((int * unit)", "(int - > unit)", "(int - unit)", "(int > unit)", "(int => unit)", "(int / unit)", "(int * unit * int)", "int * unit", "(int * )", "( * int)", "(int * unit]", "[int)", "\x00", "\xff", "(int \xff unit)", "int\x00", "’0",
	} {
		call{name: "Parse", s: s}.want(t, no(api.ErrForm))
	}
}

// P8.8: texts of types that are too great, and texts that are too long.
func TestTextsAtTheLimits(t *testing.T) {
	seqs := func(many int, inner string) string {
		return strings.Repeat("[", many) + inner + strings.Repeat("]", many)
	}
	for _, a := range types(deep(12, number), broad(60, variable(999)), broad(59, unit)) {
		checkAll(t, example{call{name: "Text", a: a}, answer{s: textValue(a)}}, example{call{name: "Parse", s: textValue(a)}, answer{t: a}})
	}
	many := strings.Repeat("(int -> ", 90) + "int" + strings.Repeat(")", 90)
	checkAll(t, []example{
		{call{name: "Parse", s: seqs(12, "unit")}, no(api.ErrFull)},
		{call{name: "Parse", s: textValue(broad(61, unit))}, no(api.ErrFull)},
		{call{name: "Parse", s: many}, no(api.ErrFull)},
		{call{name: "Parse", s: many + ")"}, no(api.ErrForm)},
		{call{name: "Parse", s: seqs(498, "unit")}, no(api.ErrFull)},
		{call{name: "Parse", s: seqs(498, "unif")}, no(api.ErrForm)},
		{call{name: "Parse", s: seqs(498, "'1000")[1:]}, no(api.ErrForm)},
		{call{name: "Parse", s: strings.Repeat("[", 1000)}, no(api.ErrForm)},
		{call{name: "Parse", s: strings.Repeat("(", 1000)}, no(api.ErrForm)},
		{call{name: "Parse", s: strings.Repeat("[", 1001)}, no(api.ErrLong)},
		{call{name: "Parse", s: seqs(499, "int")}, no(api.ErrLong)},
		{call{name: "Parse", s: "'" + strings.Repeat("1", 999)}, no(api.ErrForm)},
		{call{name: "Parse", s: "'" + strings.Repeat("1", 1000)}, no(api.ErrLong)},
	}...)
}
