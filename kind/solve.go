package kind

import "sheafworks/api"

// pair is two types, by their texts: types are the same if these are.
type pair struct{ first, second string }

func pairOf(a, b api.Type) pair { return pair{text(a), text(b)} }

// same reports whether both are the same type.
func (p pair) same() bool { return p.first == p.second }

// match finds the bindings of a's variables that make a the same as b, or refuses with ErrType.
func (l bindings) match(a, b api.Type) {
	if to, had := l.of(a); had {
		if !pairOf(to, b).same() {
			panic(api.ErrType)
		}
		return
	}
	if a.Kind == api.TypeVar {
		l[a.N] = b
		return
	}
	if a.Kind != b.Kind {
		panic(api.ErrType)
	}
	for x, y := range both(a, b) {
		l.match(x, y)
	}
}

// unify finds the most general bindings that make both types the same, or refuses with ErrType or ErrFull.
func (l bindings) unify(a, b api.Type) {
	// Bindings are put in each other only at the end. Till then all types that are met are some of those in a and b, and each two of them meet once: so there is an end, even where a type would be in itself.
	met := map[pair]bool{}
	var meet func(a, b api.Type)
	meet = func(a, b api.Type) {
		a, b = l.end(a), l.end(b)
		p := pairOf(a, b)
		if met[p] || p.same() {
			return
		}
		met[p] = true
		switch {
		case a.Kind == api.TypeVar && (b.Kind != api.TypeVar || a.N > b.N):
			l[a.N] = b
		case b.Kind == api.TypeVar:
			l[b.N] = a
		case a.Kind != b.Kind:
			panic(api.ErrType)
		default:
			for x, y := range both(a, b) {
				meet(x, y)
			}
		}
	}
	meet(a, b)
	l.settle()
}

// end returns what a type comes to: a variable that has a binding to what is put for it, and so on. Variables are bound to lesser ones, so that there is an end.
func (l bindings) end(t api.Type) api.Type {
	for {
		to, ok := l.of(t)
		if !ok {
			return t
		}
		t = to
	}
}

// settle puts the bindings in each other, until to put them in once more would change nothing.
func (l bindings) settle() {
	for _, v := range l.inOrder() {
		l[v] = l.put(l[v])
	}
}

// inOrder returns the variables that have bindings, each one behind those that are in its type. It refuses with ErrType if one would be in its own type.
func (l bindings) inOrder() []int {
	var order []int
	ended := map[int]bool{} // of those that were begun
	var visit func(v int)
	visit = func(v int) {
		if end, begun := ended[v]; end {
			return
		} else if begun {
			panic(api.ErrType)
		}
		ended[v] = false
		for _, inner := range variables(l[v]) {
			if _, ok := l[inner]; ok {
				visit(inner)
			}
		}
		ended[v] = true
		order = append(order, v)
	}
	for _, v := range l.bound() {
		visit(v)
	}
	return order
}

// common returns what two types have in common.
func common(a, b api.Type) api.Type {
	numbers := map[pair]int{} // of the variables, by what stands for them in both types
	var join func(a, b api.Type) api.Type
	join = func(a, b api.Type) api.Type {
		if a.Kind != b.Kind || a.Kind == api.TypeVar {
			p := pairOf(a, b)
			if _, had := numbers[p]; !had {
				numbers[p] = len(numbers)
			}
			return variable(numbers[p])
		}
		var parts []api.Type
		for x, y := range both(a, b) {
			parts = append(parts, join(x, y))
		}
		return joined(a.Kind, parts...)
	}
	return join(a, b)
}
