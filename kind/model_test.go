package kind_test

import (
	"math/rand"
	"slices"
	"strconv"
	"strings"

	"sheafworks/api"
)

// The definitions of the chapter, as slowly as they are said. They are for types that have no end to their parts only where it is said.

// partsOf returns how many parts a type of a kind has; -1 if there is no such kind.
func partsOf(kind int) int {
	switch kind {
	case api.TypeUnit, api.TypeInt, api.TypeVar:
		return 0
	case api.TypeSeq:
		return 1
	case api.TypePair, api.TypeSum, api.TypeFun:
		return 2
	}
	return -1
}

// sizeOf returns how many types are in a type.
func sizeOf(t api.Type) int {
	many := 1
	for _, part := range t.L {
		many += sizeOf(part)
	}
	return many
}

// deepOf returns how many types of a type are one within the other.
func deepOf(t api.Type) int {
	deep := 0
	for _, part := range t.L {
		deep = max(deep, deepOf(part))
	}
	return deep + 1
}

// isWhole reports whether a type and all that is in it are of kinds that there are, with as many parts and variables that there are.
func isWhole(t api.Type) bool {
	if t.Kind == api.TypeVar && (t.N < 0 || t.N > 999) || len(t.L) != partsOf(t.Kind) {
		return false
	}
	return !slices.ContainsFunc(t.L, func(part api.Type) bool { return !isWhole(part) })
}

func validValue(t api.Type) bool { return isWhole(t) && sizeOf(t) <= 60 && deepOf(t) <= 12 }

// validBindings reports whether bindings are valid.
func validBindings(l []api.KindBind) bool {
	for i, b := range l {
		same := func(c api.KindBind) bool { return c.Var == b.Var }
		if b.Var < 0 || b.Var > 999 || !validValue(b.Type) || slices.ContainsFunc(l[:i], same) {
			return false
		}
	}
	return true
}

// has reports whether a type of a kind is in a type.
func has(t api.Type, kind int) bool {
	return t.Kind == kind || slices.ContainsFunc(t.L, func(part api.Type) bool { return has(part, kind) })
}

func groundValue(t api.Type) bool {
	return validValue(t) && !has(t, api.TypeFun) && !has(t, api.TypeVar)
}

// ownValue returns own of a ground type.
func ownValue(t api.Type) int {
	switch t.Kind {
	case api.TypeInt:
		return 1
	case api.TypePair:
		return ownValue(t.L[0]) + ownValue(t.L[1])
	case api.TypeSum:
		return 1 + ownValue(t.L[0]) + ownValue(t.L[1])
	case api.TypeSeq:
		return 2
	}
	return 0
}

// dataValue returns data of a ground type.
func dataValue(t api.Type) int {
	switch t.Kind {
	case api.TypePair, api.TypeSum:
		return dataValue(t.L[0]) + dataValue(t.L[1])
	case api.TypeSeq:
		return ownValue(t.L[0]) + dataValue(t.L[0])
	}
	return 0
}

// varsValue returns the variables of a type.
func varsValue(t api.Type) []int {
	var l []int
	if t.Kind == api.TypeVar {
		l = append(l, t.N)
	}
	for _, part := range t.L {
		for _, v := range varsValue(part) {
			if !slices.Contains(l, v) {
				l = append(l, v)
			}
		}
	}
	return l
}

// putValue returns a type with bindings put in it, valid or not; N is 0 but for variables.
func putValue(l []api.KindBind, t api.Type) api.Type {
	if t.Kind == api.TypeVar {
		for _, b := range l {
			if b.Var == t.N {
				return putValue(nil, b.Type)
			}
		}
		return variable(t.N)
	}
	next := api.Type{Kind: t.Kind}
	for _, part := range t.L {
		next.L = append(next.L, putValue(l, part))
	}
	return next
}

// sameValue reports whether two types are the same.
func sameValue(a, b api.Type) bool {
	return a.Kind == b.Kind && (a.Kind != api.TypeVar || a.N == b.N) && slices.EqualFunc(a.L, b.L, sameValue)
}

// solveValue makes equations to bindings, one after the other; each binding is put in all others at once. It returns whether there are any.
func solveValue(equations [][2]api.Type) ([]api.KindBind, bool) {
	var l []api.KindBind
	for len(equations) > 0 {
		a, b := equations[0][0], equations[0][1]
		equations = equations[1:]
		if b.Kind == api.TypeVar && (a.Kind != api.TypeVar || b.N > a.N) {
			a, b = b, a
		}
		switch {
		case sameValue(a, b):
		case a.Kind == api.TypeVar:
			if slices.Contains(varsValue(b), a.N) {
				return nil, false
			}
			one := []api.KindBind{{Var: a.N, Type: b}}
			for i, e := range equations {
				equations[i] = [2]api.Type{putValue(one, e[0]), putValue(one, e[1])}
			}
			for i := range l {
				l[i].Type = putValue(one, l[i].Type)
			}
			l = append(l, one...)
		case a.Kind != b.Kind || len(a.L) != len(b.L):
			return nil, false
		default:
			for i := range a.L {
				equations = append(equations, [2]api.Type{a.L[i], b.L[i]})
			}
		}
	}
	return ordered(l), true
}

func ordered(l []api.KindBind) []api.KindBind {
	slices.SortFunc(l, func(b, c api.KindBind) int { return b.Var - c.Var })
	return l
}

// unifyValue returns the bindings that are meant of two types, and whether there are any.
func unifyValue(a, b api.Type) ([]api.KindBind, bool) {
	return solveValue([][2]api.Type{{putValue(nil, a), putValue(nil, b)}})
}

// fixed returns a type whose variables are kinds of their own, that are the same as nothing else.
func fixed(t api.Type) api.Type {
	if t.Kind == api.TypeVar {
		return api.Type{Kind: 1000 + t.N}
	}
	next := api.Type{Kind: t.Kind}
	for _, part := range t.L {
		next.L = append(next.L, fixed(part))
	}
	return next
}

// loose makes such kinds variables again.
func loose(t api.Type) api.Type {
	if t.Kind >= 1000 {
		return variable(t.Kind - 1000)
	}
	for i, part := range t.L {
		t.L[i] = loose(part)
	}
	return t
}

// matchValue returns the bindings that make a type another one, and whether that is an instance.
func matchValue(a, b api.Type) ([]api.KindBind, bool) {
	l, ok := solveValue([][2]api.Type{{putValue(nil, a), fixed(b)}})
	for i := range l {
		l[i].Type = loose(putValue(nil, l[i].Type))
	}
	return l, ok
}

// isInstance reports whether a type is an instance of another one.
func isInstance(t, of api.Type) bool {
	_, ok := matchValue(of, t)
	return ok
}

// numberValue returns a type with its variables numbered.
func numberValue(t api.Type) api.Type {
	var l []api.KindBind
	for i, v := range varsValue(t) {
		l = append(l, api.KindBind{Var: v, Type: variable(i)})
	}
	return putValue(l, t)
}

// textValue returns a type as a text.
func textValue(t api.Type) string {
	switch t.Kind {
	case api.TypeUnit:
		return "unit"
	case api.TypeInt:
		return "int"
	case api.TypePair:
		return "(" + textValue(t.L[0]) + " * " + textValue(t.L[1]) + ")"
	case api.TypeSum:
		return "(" + textValue(t.L[0]) + " + " + textValue(t.L[1]) + ")"
	case api.TypeSeq:
		return "[" + textValue(t.L[0]) + "]"
	case api.TypeFun:
		return "(" + textValue(t.L[0]) + " -> " + textValue(t.L[1]) + ")"
	}
	return "'" + strconv.Itoa(t.N)
}

// commonValue returns what two types have in common: of all types that are made of a by making some of the types in it variables, one of which both are instances, and which is an instance of all others of these.
func commonValue(a, b api.Type) api.Type {
	best := variable(0)
	for _, t := range looser(a, b) {
		if isInstance(a, t) && isInstance(b, t) && isInstance(t, best) {
			best = t
		}
	}
	return numberValue(best)
}

// looser returns all types of which a type is an instance, whose variables are numbers of what stands for them in both types.
func looser(a, b api.Type) []api.Type {
	var texts []string // of what stands for each variable in a, and in b
	var of func(a, b api.Type) []api.Type
	of = func(a, b api.Type) []api.Type {
		text := textValue(a) + " and " + textValue(b)
		if !slices.Contains(texts, text) {
			texts = append(texts, text)
		}
		all := []api.Type{variable(slices.Index(texts, text))}
		if a.Kind != b.Kind || a.Kind == api.TypeVar {
			return all
		}
		wholes := []api.Type{{Kind: a.Kind}}
		for i, part := range a.L {
			var next []api.Type
			for _, whole := range wholes {
				for _, x := range of(part, b.L[i]) {
					next = append(next, api.Type{Kind: a.Kind, L: append(slices.Clone(whole.L), x)})
				}
			}
			wholes = next
		}
		return append(all, wholes...)
	}
	return of(a, b)
}

// parseValue returns the type of a text; all that is a text of a type is written again the same way.
func parseValue(s string) (api.Type, api.Errno) {
	if len(s) > 1000 {
		return api.Type{}, api.ErrLong
	}
	t, rest, ok := readValue(s)
	if !ok || rest != "" || textValue(t) != s {
		return api.Type{}, api.ErrForm
	}
	if !validValue(t) {
		return api.Type{}, api.ErrFull
	}
	return t, api.OK
}

// readValue reads a type, with blanks, digits and brackets that may not be right.
func readValue(s string) (t api.Type, rest string, ok bool) {
	for _, leaf := range []api.Type{unit, number} {
		if rest, ok := strings.CutPrefix(s, textValue(leaf)); ok {
			return leaf, rest, true
		}
	}
	if s == "" {
		return t, "", false
	}
	switch s[0] {
	case '\'':
		n := 0
		for s = s[1:]; s != "" && s[0] >= '0' && s[0] <= '9'; s = s[1:] {
			n = min(10*n+int(s[0]-'0'), 1000)
		}
		return variable(n), s, n < 1000
	case '[':
		part, rest, ok := readValue(s[1:])
		return seqOf(part), strings.TrimPrefix(rest, "]"), ok
	case '(':
		first, rest, ok := readValue(s[1:])
		mark, behind, found := strings.Cut(strings.TrimPrefix(rest, " "), " ")
		kind := map[string]int{"*": api.TypePair, "+": api.TypeSum, "->": api.TypeFun}[mark]
		if !ok || !found || kind == 0 {
			return t, "", false
		}
		second, rest, ok := readValue(behind)
		return api.Type{Kind: kind, L: types(first, second)}, strings.TrimPrefix(rest, ")"), ok
	}
	return t, "", false
}

// maker makes types and bindings; the same ones each time.
type maker struct{ *rand.Rand }

func newMaker(seed int64) maker { return maker{rand.New(rand.NewSource(seed))} }

// leaf returns a type without parts, in most cases one of so many variables.
func (m maker) leaf(vars int) api.Type {
	if vars > 0 && m.Intn(3) > 0 {
		return variable(m.Intn(vars))
	}
	return types(unit, number)[m.Intn(2)]
}

// kind returns a type of at most so many levels, with some of so many variables.
func (m maker) kind(levels, vars int) api.Type {
	if levels <= 1 || m.Intn(5) == 0 {
		return m.leaf(vars)
	}
	kinds := list(api.TypePair, api.TypePair, api.TypeSum, api.TypeFun, api.TypeSeq)
	t := api.Type{Kind: kinds[m.Intn(len(kinds))]}
	for range partsOf(t.Kind) {
		t.L = append(t.L, m.kind(levels-1, vars))
	}
	return t
}

// data returns a ground type of at most so many levels.
func (m maker) data(levels int) api.Type {
	for {
		if t := m.kind(levels, 0); groundValue(t) {
			return t
		}
	}
}

// bindings returns bindings of some of so many variables, with types of at most so many levels.
func (m maker) bindings(vars, levels int) []api.KindBind {
	var l []api.KindBind
	for _, v := range m.Perm(vars)[:m.Intn(vars+1)] {
		l = append(l, api.KindBind{Var: v, Type: m.kind(levels, vars)})
	}
	return l
}

// like returns a type that is like another one: here and there is another part, or a variable instead.
func (m maker) like(t api.Type, vars int) api.Type {
	switch m.Intn(8) {
	case 0:
		return variable(m.Intn(vars))
	case 1:
		return m.kind(2, vars)
	}
	next := api.Type{Kind: t.Kind, N: t.N}
	for _, part := range t.L {
		next.L = append(next.L, m.like(part, vars))
	}
	return next
}
