package kind

import (
	"maps"
	"slices"

	"sheafworks/api"
)

// bindings is the types that are put for variables.
type bindings map[int]api.Type

// bindingsOf returns the bindings of a list, and refuses those that are not valid.
func bindingsOf(list []api.KindBind) bindings {
	l := bindings{}
	for _, b := range list {
		if _, had := l[b.Var]; had || !isVariable(b.Var) {
			panic(api.ErrArg)
		}
		l[b.Var] = require(b.Type)
	}
	return l
}

// list returns the bindings as a list, in new memory, ordered by their variables.
func (l bindings) list() []api.KindBind { return slices.Collect(each(l.bound(), l.binding)) }

// bound returns the variables that have bindings, rising.
func (l bindings) bound() []int { return slices.Sorted(maps.Keys(l)) }

func (l bindings) binding(v int) api.KindBind {
	return api.KindBind{Var: v, Type: made(plain{l[v]})}
}

// of returns what is put for a type; nothing unless it is a variable that has a binding.
func (l bindings) of(t api.Type) (api.Type, bool) {
	if t.Kind != api.TypeVar {
		return api.Type{}, false
	}
	to, ok := l[t.N]
	return to, ok
}

// through returns a look at a type with the bindings put in it.
func (l bindings) through(t api.Type) look {
	if to, ok := l.of(t); ok {
		return plain{to}
	}
	return under{plain{t}, l}
}

// put returns a type with the bindings put in it, and refuses it with ErrFull if that is not valid.
func (l bindings) put(t api.Type) api.Type {
	x := l.through(t)
	if !isValid(x) {
		panic(api.ErrFull)
	}
	return made(x)
}

// numbered returns a type with its variables numbered.
func numbered(t api.Type) api.Type {
	l := bindings{}
	for i, v := range variables(t) {
		l[v] = variable(i)
	}
	return l.put(t)
}
