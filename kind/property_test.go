package kind_test

import (
	"math"
	"reflect"
	"slices"
	"strings"
	"sync"
	"testing"

	"sheafworks/api"
)

// small returns all types of at most so many types, of some kinds, with two variables.
func small(size int) []api.Type {
	ofSize := [][]api.Type{nil, types(number, variable(0), variable(1))}
	for many := 2; many <= size; many++ {
		var next []api.Type
		for _, a := range ofSize[many-1] {
			next = append(next, seqOf(a))
		}
		for first := 1; first < many-1; first++ {
			for _, a := range ofSize[first] {
				for _, b := range ofSize[many-1-first] {
					next = append(next, pairOf(a, b), funOf(a, b))
				}
			}
		}
		ofSize = append(ofSize, next)
	}
	return slices.Concat(ofSize...)
}

// P8.1 to P8.8: all small types, each with each other one.
func TestSmallTypesByTheDefinitions(t *testing.T) {
	all := small(4)
	for _, a := range all {
		for _, name := range names {
			call{name: name, a: a, b: a, l: binds("1 ('0 * int)")}.check(t)
		}
		call{name: "Parse", s: textValue(a)}.want(t, answer{t: a})
		for _, b := range all {
			for _, name := range []string{"Unify", "Match", "Common"} {
				call{name: name, a: a, b: b}.check(t)
			}
			call{name: "Put", a: a, l: []api.KindBind{{Var: 0, Type: b}}}.check(t)
			call{name: "Put", a: a, l: []api.KindBind{{Var: 1, Type: a}, {Var: 0, Type: b}}}.check(t)
		}
	}
}

// P8.1 to P8.8: larger types, that are like each other or not.
func TestLargerTypesByTheDefinitions(t *testing.T) {
	m := newMaker(1)
	count := map[string]map[api.Errno]int{}
	for range 6000 {
		vars := 1 + m.Intn(6)
		a := m.kind(1+m.Intn(4), vars)
		b := m.like(a, vars)
		if m.Intn(4) == 0 {
			b = m.kind(1+m.Intn(4), vars)
		}
		for _, name := range names {
			c := call{name: name, a: a, b: b, l: m.bindings(vars, 1+m.Intn(7))}
			if name == "Match" && m.Intn(2) == 0 {
				c.b = putValue(c.l, a)
			}
			c.check(t)
			if count[name] == nil {
				count[name] = map[api.Errno]int{}
			}
			count[name][c.value().err]++
		}
	}
	for name, few := range map[string]int{"Unify": 500, "Match": 500} {
		if count[name][api.OK] < few || count[name][api.ErrType] < few {
			t.Errorf("%s: %v: too few to tell", name, count[name])
		}
	}
	if count["Put"][api.ErrFull] < 20 {
		t.Errorf("Put: %v: too few to tell", count["Put"])
	}
}

// P8.1, P8.2: ground types, of any size, and types of which one field is changed.
func TestGroundTypesByTheDefinitions(t *testing.T) {
	m := newMaker(2)
	valid, others := 0, 0
	for range 20000 {
		a := m.spoilt(m.data(1 + m.Intn(6)))
		for _, name := range []string{"Check", "Ground", "Own", "Data", "Vars", "Text"} {
			call{name: name, a: a}.check(t)
		}
		if validValue(a) {
			valid++
		} else {
			others++
		}
	}
	if valid < 2000 || others < 2000 {
		t.Errorf("%d are valid, %d are not: too few to tell", valid, others)
	}
}

// spoilt returns a type of which a field is changed here and there; it may be valid still.
func (m maker) spoilt(t api.Type) api.Type {
	next := api.Type{Kind: t.Kind, N: t.N}
	for _, part := range t.L {
		next.L = append(next.L, m.spoilt(part))
	}
	switch m.Intn(60) {
	case 0:
		next.Kind = m.Intn(9) - 1
	case 1:
		next.N = list(-1, 1, 999, 1000, math.MinInt, math.MaxInt)[m.Intn(6)]
	case 2:
		next.L = append(next.L, unit)
	case 3:
		next.L = next.L[:len(next.L)/2]
	case 4:
		next.Kind, next.L = api.TypeVar, nil
	}
	return next
}

// P8.8: texts with a byte more, less, or another one, and all short texts of some bytes.
func TestTextsByTheDefinitions(t *testing.T) {
	m := newMaker(3)
	pieces := []string{"(", ")", "[", "]", " ", "'", "0", "1", "10", "int", "unit", " * ", " + ", " -> ", "*", "-", "", "x", "\n"}
	right, wrong := 0, 0
	for range 40000 {
		s := textValue(m.kind(1+m.Intn(5), 20))
		for range m.Intn(3) {
			from := m.Intn(len(s) + 1)
			to := min(from+m.Intn(3), len(s))
			s = s[:from] + pieces[m.Intn(len(pieces))] + s[to:]
		}
		c := call{name: "Parse", s: s}
		c.check(t)
		if c.value().err == api.OK {
			right++
		} else {
			wrong++
		}
	}
	if right < 5000 || wrong < 5000 {
		t.Errorf("%d are texts, %d are not: too few to tell", right, wrong)
	}
	short := []string{""}
	for range 4 {
		var next []string
		for _, s := range short {
			call{name: "Parse", s: s}.check(t)
			for _, piece := range pieces {
				next = append(next, s+piece)
			}
		}
		short = next
	}
}

// P8.10: of all small bindings those that unify two types make instances of what Unify makes; where it finds none there are none.
func TestUnifyIsMostGeneral(t *testing.T) {
	all, put := small(3), small(2)
	var some [][]api.KindBind
	for _, x := range put {
		for _, y := range put {
			some = append(some, []api.KindBind{{Var: 0, Type: x}, {Var: 1, Type: y}})
		}
	}
	for _, a := range all {
		for _, b := range all {
			x := call{name: "Unify", a: a, b: b}.do()
			most := putValue(x.binds, pairOf(a, b))
			for _, l := range some {
				one, other := putValue(l, a), putValue(l, b)
				if !sameValue(one, other) {
					continue
				}
				if x.err != api.OK || !isInstance(pairOf(one, other), most) {
					t.Errorf("%s and %s become %s by %v, not by %v", textValue(a), textValue(b), textValue(one), l, x)
				}
			}
		}
	}
}

// P8.10: what Unify returns makes types the same, once and for all, whichever comes first, and its variables are the least ones.
func TestUnifyMakesTheSame(t *testing.T) {
	m := newMaker(4)
	found := 0
	for range 20000 {
		vars := 1 + m.Intn(8)
		a := m.kind(1+m.Intn(4), vars)
		b := m.like(a, vars)
		x := call{name: "Unify", a: a, b: b}.do()
		call{name: "Unify", a: b, b: a}.want(t, x)
		if x.err != api.OK {
			continue
		}
		found++
		one := call{name: "Put", l: x.binds, a: a}.do()
		call{name: "Put", l: x.binds, a: b}.want(t, one)
		if one.err == api.OK {
			call{name: "Put", l: x.binds, a: one.t}.want(t, one)
			call{name: "Unify", a: one.t, b: one.t}.want(t, answer{})
		}
		checkBindings(t, x.binds, varsValue(pairOf(a, b)))
	}
	if found < 2000 {
		t.Errorf("%d are unified: too few to tell", found)
	}
}

// checkBindings checks that bindings are in order, that each is one of these variables that does not stay, that none of them comes in a type, and that variables become lesser ones.
func checkBindings(t *testing.T, l []api.KindBind, vars []int) {
	t.Helper()
	var left []int
	for i, b := range l {
		if i > 0 && b.Var <= l[i-1].Var || !slices.Contains(vars, b.Var) {
			t.Errorf("%d is not in order in %v, or none of %v", b.Var, l, vars)
		}
		if b.Type.Kind == api.TypeVar && b.Type.N >= b.Var {
			t.Errorf("%d becomes %d in %v", b.Var, b.Type.N, l)
		}
		left = append(left, varsValue(b.Type)...)
	}
	for _, b := range l {
		if slices.Contains(left, b.Var) {
			t.Errorf("%d is left in %v", b.Var, l)
		}
	}
}

// P8.6, P8.10: what is put in a type makes an instance, and is found again.
func TestMatchFindsWhatWasPut(t *testing.T) {
	m := newMaker(5)
	for range 10000 {
		vars := 1 + m.Intn(5)
		a := m.kind(1+m.Intn(4), vars)
		l := ordered(m.bindings(vars, 1+m.Intn(3)))
		put := call{name: "Put", l: l, a: a}.do()
		if put.err != api.OK {
			continue
		}
		var want []api.KindBind
		for _, v := range slices.Sorted(slices.Values(varsValue(a))) {
			want = append(want, api.KindBind{Var: v, Type: putValue(l, variable(v))})
		}
		call{name: "Match", a: a, b: put.t}.want(t, answer{binds: want})
		call{name: "Put", l: want, a: a}.want(t, put)
	}
}

// P8.10: types that are instances of each other are the same when they are numbered, and others are not.
func TestInstancesOfEachOther(t *testing.T) {
	numbered := func(a api.Type) string { return textValue(call{name: "Number", a: a}.do().t) }
	instance := func(a, of api.Type) bool { return call{name: "Match", a: of, b: a}.do().err == api.OK }
	all := small(4)
	for _, a := range all {
		call{name: "Number", a: call{name: "Number", a: a}.do().t}.want(t, call{name: "Number", a: a}.do())
		for _, b := range all {
			if both := instance(a, b) && instance(b, a); both != (numbered(a) == numbered(b)) {
				t.Errorf("%s and %s are instances of each other: %v", textValue(a), textValue(b), both)
			}
		}
	}
}

// P8.7, P8.10: both types are instances of what they have in common, and no type of which both are is less general.
func TestCommonIsLeastGeneral(t *testing.T) {
	all := small(3)
	for _, a := range all {
		for _, b := range all {
			common := call{name: "Common", a: a, b: b}.do().t
			for _, x := range all {
				if isInstance(a, x) && isInstance(b, x) && !isInstance(common, x) {
					t.Errorf("%s and %s have %s in common, not %s", textValue(a), textValue(b), textValue(common), textValue(x))
				}
			}
		}
	}
	m := newMaker(6)
	for range 5000 {
		vars := 1 + m.Intn(5)
		a := m.kind(1+m.Intn(4), vars)
		b := m.like(a, vars)
		x := call{name: "Common", a: a, b: b}.do()
		if x.err != api.OK || !isInstance(a, x.t) || !isInstance(b, x.t) {
			t.Errorf("%s and %s: %v", textValue(a), textValue(b), x)
		}
		call{name: "Number", a: x.t}.want(t, x)
		call{name: "Common", a: a, b: a}.want(t, call{name: "Number", a: a}.do())
		if put := putValue(m.bindings(vars, 2), a); validValue(put) {
			call{name: "Common", a: a, b: put}.want(t, call{name: "Number", a: a}.do())
			call{name: "Common", a: put, b: a}.want(t, call{name: "Number", a: a}.do())
		}
	}
}

// P8.8, P8.10: a type that is written is read as the same type.
func TestWrittenAndRead(t *testing.T) {
	m := newMaker(7)
	for range 5000 {
		a := m.kind(1+m.Intn(6), 1000)
		x := call{name: "Text", a: a}.do()
		if x.err == api.OK {
			call{name: "Parse", s: x.s}.want(t, answer{t: a})
		} else if validValue(a) {
			t.Errorf("%s: %v", textValue(a), x)
		}
	}
}

// P8.10: registers of a type depend on those of its parts alone.
func TestRegistersOfParts(t *testing.T) {
	own := func(a api.Type) int { return call{name: "Own", a: a}.do().number }
	data := func(a api.Type) int { return call{name: "Data", a: a}.do().number }
	m := newMaker(8)
	for range 5000 {
		a, b := m.data(1+m.Intn(4)), m.data(1+m.Intn(4))
		for i, x := range []struct{ got, want int }{
			{own(pairOf(a, b)), own(a) + own(b)}, {data(pairOf(a, b)), data(a) + data(b)}, {own(sumOf(a, b)), 1 + own(a) + own(b)}, {data(sumOf(a, b)), data(a) + data(b)},
			{own(seqOf(a)), 2}, {data(seqOf(a)), own(a) + data(a)}, {own(funOf(a, b)), -1}, {data(funOf(a, b)), -1},
		} {
			if x.got != x.want {
				t.Errorf("%d: of %s and %s: %d; want %d", i, textValue(a), textValue(b), x.got, x.want)
			}
		}
	}
}

// questions returns calls of all kinds; those of the same seed are the same.
func questions(seed int64) []call {
	m := newMaker(seed)
	var all []call
	ask := func(a, b api.Type, l []api.KindBind, s string) {
		for _, name := range append(names, "Parse") {
			all = append(all, call{name, a, b, l, s})
		}
	}
	for range 300 {
		vars := 1 + m.Intn(6)
		a := m.kind(1+m.Intn(4), vars)
		ask(m.odd(a), m.odd(m.like(a, vars)), m.bindings(vars, 3), textValue(a))
	}
	for i, a := range badTypes() {
		ask(a, unit, []api.KindBind{{Var: 0, Type: a}}, strings.Repeat("[", 30*i))
		ask(unit, a, []api.KindBind{{Var: -1, Type: unit}}, strings.Repeat("(int * ", 3*i))
	}
	return all
}

// odd returns a type with numbers where they are not looked at.
func (m maker) odd(t api.Type) api.Type {
	next := api.Type{Kind: t.Kind, N: t.N}
	if t.Kind != api.TypeVar {
		next.N = m.Intn(5000) - 2000
	}
	for _, part := range t.L {
		next.L = append(next.L, m.odd(part))
	}
	return next
}

// spoil overwrites an answer, with the room behind its lists.
func (x answer) spoil() {
	l := x.vars[:cap(x.vars)]
	for i := range l {
		l[i] = -77
	}
	for _, b := range x.binds {
		spoilTypes(b.Type.L)
	}
	clear(x.binds[:cap(x.binds)])
	spoilTypes(x.t.L)
}

func spoilTypes(l []api.Type) {
	for _, t := range l {
		spoilTypes(t.L)
	}
	l = l[:cap(l)]
	for i := range l {
		l[i] = api.Type{Kind: -77}
	}
}

// P1, P13 and P8.9: no call changes what it is given or keeps it, and each is answered the same again, whatever was done with the first answers, also at the same time.
func TestAnyCallAgain(t *testing.T) {
	asked := questions(9)
	var wait sync.WaitGroup
	for _, c := range asked {
		for range 2 {
			wait.Go(func() {
				first, again := c.do(), c.do()
				first.spoil()
				if third := c.do(); !reflect.DeepEqual(again, third) {
					t.Errorf("%s: answered %v, then %v", c.name, again, third)
				}
			})
		}
	}
	wait.Wait()
	if !reflect.DeepEqual(asked, questions(9)) {
		t.Error("arguments have changed")
	}
}

// lists returns all lists of types in a type.
func lists(t api.Type) [][]api.Type {
	if len(t.L) == 0 {
		return nil
	}
	all := [][]api.Type{t.L}
	for _, part := range t.L {
		all = append(all, lists(part)...)
	}
	return all
}

// P8.9: no list of an answer is one of the arguments, or another one of the answer, and N is 0 but for variables.
func TestListsOfAnAnswerAreApart(t *testing.T) {
	for _, c := range questions(10) {
		seen := map[*api.Type]bool{}
		if !validValue(c.a) || !validValue(c.b) || !validBindings(c.l) {
			continue
		}
		for _, given := range append(types(c.a, c.b), typesOf(c.l)...) {
			for _, l := range lists(given) {
				seen[&l[0]] = true
			}
		}
		x := c.do()
		for _, got := range append(typesOf(x.binds), x.t) {
			if !isEqual(got, putValue(nil, got)) {
				t.Errorf("%s: %v has numbers", c.name, got)
			}
			for _, l := range lists(got) {
				if seen[&l[0]] {
					t.Errorf("%s of %v, %v, %v: %v is shared", c.name, c.a, c.b, c.l, l)
				}
				seen[&l[0]] = true
			}
		}
	}
	x := call{name: "Unify", a: is("('1 * ('1 * '2))"), b: is("('2 * ('3 * [int]))")}.do()
	x.binds[0].Type.L[0] = unit
	if want := binds("1 [unit]; 2 [int]; 3 [int]"); !x.isSame(answer{binds: want}) {
		t.Errorf("%v; want %v", x.binds, want)
	}
}

func typesOf(l []api.KindBind) []api.Type {
	var all []api.Type
	for _, b := range l {
		all = append(all, b.Type)
	}
	return all
}
