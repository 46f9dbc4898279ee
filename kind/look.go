package kind

import (
	"iter"
	"slices"

	"sheafworks/api"
)

// look is a type that is looked at; top is it with its own kind and number, and parts are what it has for parts.
type look interface {
	top() api.Type
	parts() iter.Seq[look]
}

// plain is a type as it is.
type plain struct{ t api.Type }

func (p plain) top() api.Type { return p.t }

func (p plain) parts() iter.Seq[look] {
	return each(p.t.L, func(part api.Type) look { return plain{part} })
}

// under is a type with bindings put in it, which is no variable that has one.
type under struct {
	plain
	put bindings
}

func (u under) parts() iter.Seq[look] { return each(u.t.L, u.put.through) }

// each produces what a function makes of each one of a list.
func each[A, B any](list []A, of func(A) B) iter.Seq[B] {
	return func(yield func(B) bool) {
		for _, x := range list {
			if !yield(of(x)) {
				return
			}
		}
	}
}

// nodes produces a type and all that is in it, each one ahead of its parts, with its level. Whoever ranges over it leaves as soon as there is too much of it: a list that has itself in it has no end.
func nodes(x look) iter.Seq2[int, look] {
	return func(yield func(int, look) bool) {
		var visit func(level int, node look) bool
		visit = func(level int, node look) bool {
			if !yield(level, node) {
				return false
			}
			for part := range node.parts() {
				if !visit(level+1, part) {
					return false
				}
			}
			return true
		}
		visit(1, x)
	}
}

// both produces the parts of two types of the same kind, those that stand at the same place together.
func both(a, b api.Type) iter.Seq2[api.Type, api.Type] {
	return func(yield func(x, y api.Type) bool) {
		for i, part := range a.L {
			if !yield(part, b.L[i]) {
				return
			}
		}
	}
}

// isValid reports whether a type is valid.
func isValid(x look) bool {
	known, many := kinds(), 0
	for level, node := range nodes(x) {
		t := node.top()
		many++
		if many > api.TypeSize || level > api.TypeDeep {
			return false
		}
		if t.Kind < 0 || t.Kind >= len(known) || len(t.L) != known[t.Kind].parts {
			return false
		}
		if t.Kind == api.TypeVar && !isVariable(t.N) {
			return false
		}
	}
	return true
}

func isVariable(n int) bool { return n >= 0 && n < api.KindVars }

// isGround reports whether a type is valid, without functions and variables.
func isGround(t api.Type) bool {
	if !isValid(plain{t}) {
		return false
	}
	ground := true
walk:
	for _, node := range nodes(plain{t}) {
		switch node.top().Kind {
		case api.TypeFun, api.TypeVar:
			ground = false
			break walk
		}
	}
	return ground
}

// made returns a type as it is looked at, in new memory.
func made(x look) api.Type {
	var parts []api.Type
	for part := range x.parts() {
		parts = append(parts, made(part))
	}
	top := x.top()
	if top.Kind == api.TypeVar {
		return variable(top.N)
	}
	return joined(top.Kind, parts...)
}

// joined returns a type of a kind with some parts.
func joined(kind int, parts ...api.Type) api.Type {
	return api.Type{Kind: kind, L: slices.Clone(parts)}
}

func variable(n int) api.Type { return api.Type{Kind: api.TypeVar, N: n} }

// variables returns the variables of a type, each once, in the order in which they come first.
func variables(t api.Type) []int {
	var list []int
	had := map[int]bool{}
	for _, node := range nodes(plain{t}) {
		if top := node.top(); top.Kind == api.TypeVar && !had[top.N] {
			had[top.N] = true
			list = append(list, top.N)
		}
	}
	return list
}
