package nest_test

import (
	"math/rand"
	"slices"

	"sheafworks/api"
)

// The model follows the chapter's definitions word by word, table by table, and sequence by sequence, however slowly.

// ownOf is how many own registers a type has.
func ownOf(t api.Type) int {
	switch t.Kind {
	case api.TypeInt:
		return 1
	case api.TypePair:
		return ownOf(t.L[0]) + ownOf(t.L[1])
	case api.TypeSum:
		return 1 + ownOf(t.L[0]) + ownOf(t.L[1])
	case api.TypeSeq:
		return 2
	}
	return 0
}

// dataOf is how many data registers a type has.
func dataOf(t api.Type) int {
	switch t.Kind {
	case api.TypePair, api.TypeSum:
		return dataOf(t.L[0]) + dataOf(t.L[1])
	case api.TypeSeq:
		return ownOf(t.L[0]) + dataOf(t.L[0])
	}
	return 0
}

// held is registers of a type.
type held struct {
	t         api.Type
	own, data [][]int
}

// hold cuts the registers of a type.
func hold(t api.Type, regs [][]int) held {
	return held{t, regs[:ownOf(t)], regs[ownOf(t):]}
}

// all returns all registers.
func (h held) all() [][]int { return slices.Concat(h.own, h.data) }

// part returns the registers of a part of a pair or a sum, or those of a pool.
func (h held) part(i int) held {
	part := h.t.L[i]
	if h.t.Kind == api.TypeSeq {
		return hold(part, h.data)
	}
	own, data := h.own, h.data
	if h.t.Kind == api.TypeSum {
		own = own[1:]
	}
	if i == 1 {
		own, data = own[ownOf(h.t.L[0]):], data[dataOf(h.t.L[0]):]
	}
	return held{part, own[:ownOf(part)], data[:dataOf(part)]}
}

// canonical returns the canonical registers of values, column by column; nil is a value of the other part of a sum.
func canonical(t api.Type, values []*api.Value) held {
	h := held{t: t}
	column := func(of func(v api.Value) int) []int {
		numbers := []int{}
		for _, v := range values {
			n := 0
			if v != nil {
				n = of(*v)
			}
			numbers = append(numbers, n)
		}
		return numbers
	}
	switch t.Kind {
	case api.TypeInt, api.TypeSum:
		h.own = append(h.own, column(func(v api.Value) int { return v.N }))
	case api.TypeSeq:
		ahead := 0
		h.own = append(h.own, column(func(v api.Value) int {
			start := ahead
			ahead += len(v.L)
			return start
		}))
		h.own = append(h.own, column(func(v api.Value) int { return len(v.L) }))
		h.data = canonical(t.L[0], inside(values)).all()
		return h
	}
	for i, part := range t.L {
		p := canonical(part, partsOf(t, values, i))
		h.own = append(h.own, p.own...)
		h.data = append(h.data, p.data...)
	}
	return h
}

// inside returns the elements of all sequences, one after the other.
func inside(values []*api.Value) []*api.Value {
	var all []*api.Value
	for _, v := range values {
		if v != nil {
			all = append(all, pointers(v.L)...)
		}
	}
	return all
}

// pointers returns where values are.
func pointers(values []api.Value) []*api.Value {
	var all []*api.Value
	for i := range values {
		all = append(all, &values[i])
	}
	return all
}

// partsOf returns the part i of each value, of a pair or a sum; of a sum that is the other one nil.
func partsOf(t api.Type, values []*api.Value, i int) []*api.Value {
	all := make([]*api.Value, len(values))
	for k, v := range values {
		if v != nil && t.Kind == api.TypePair {
			all[k] = &v.L[i]
		}
		if v != nil && t.Kind == api.TypeSum && v.N == i {
			all[k] = &v.L[0]
		}
	}
	return all
}

// model reads registers, and keeps where it has looked at numbers.
type model struct{ looked map[*int]bool }

// look returns a number of a register.
func (m model) look(reg []int, at int) int {
	m.looked[&reg[at]] = true
	return reg[at]
}

// build returns the values that registers hold, and whether they hold any.
func (m model) build(t api.Type, n int, regs [][]int) ([]api.Value, bool) {
	if len(regs) != ownOf(t)+dataOf(t) || !hold(t, regs).even(n) {
		return nil, false
	}
	var values []api.Value
	for at := range n {
		v, ok := m.value(hold(t, regs), at)
		if !ok {
			return nil, false
		}
		values = append(values, v)
	}
	return values, true
}

// even reports whether own registers have so many numbers, and those of each pool as many, one as the other.
func (h held) even(n int) bool {
	for _, reg := range h.own {
		if len(reg) != n {
			return false
		}
	}
	for i := range h.t.L {
		part := h.part(i)
		size := n
		if h.t.Kind == api.TypeSeq && len(part.own) > 0 {
			size = len(part.own[0])
		}
		if !part.even(size) {
			return false
		}
	}
	return true
}

// value returns the value at a place, and whether it is right.
func (m model) value(h held, at int) (api.Value, bool) {
	switch h.t.Kind {
	case api.TypeUnit:
		return theUnit(), true
	case api.TypeInt:
		n := m.look(h.own[0], at)
		return word(n), n >= -1<<31 && n < 1<<31
	case api.TypePair:
		first, ok := m.value(h.part(0), at)
		second, too := m.value(h.part(1), at)
		return both(first, second), ok && too
	case api.TypeSum:
		switch m.look(h.own[0], at) {
		case 0:
			v, ok := m.value(h.part(0), at)
			return left(v), ok
		case 1:
			v, ok := m.value(h.part(1), at)
			return right(v), ok
		}
		return api.Value{}, false
	}
	return m.sequence(h, at)
}

// sequence returns the sequence at a place, and whether it is right.
func (m model) sequence(h held, at int) (api.Value, bool) {
	length := m.look(h.own[1], at)
	if length < 0 || length > 4096 {
		return api.Value{}, false
	}
	v := seq()
	pool := h.part(0)
	for i := range length {
		start := m.look(h.own[0], at)
		place := start + i
		if start < 0 || len(pool.own) > 0 && place >= len(pool.own[0]) {
			return api.Value{}, false
		}
		element, ok := m.value(pool, place)
		if !ok {
			return api.Value{}, false
		}
		v.L = append(v.L, element)
	}
	return v, true
}

// join puts registers behind others; to each start of them it adds the size of the others' pool.
func join(a, b held) held {
	h := held{t: a.t}
	for i := range a.own {
		h.own = append(h.own, slices.Concat(a.own[i], b.own[i]))
	}
	if a.t.Kind == api.TypeSeq {
		if pool := a.part(0); len(pool.own) > 0 {
			for k := range b.own[0] {
				h.own[0][len(a.own[0])+k] += len(pool.own[0])
			}
		}
		h.data = join(a.part(0), b.part(0)).all()
		return h
	}
	if a.t.Kind == api.TypeSum {
		h.own = h.own[:1]
	} else if a.t.Kind == api.TypePair {
		h.own = nil
	}
	for i := range a.t.L {
		part := join(a.part(i), b.part(i))
		h.own = append(h.own, part.own...)
		h.data = append(h.data, part.data...)
	}
	return h
}

// maker makes types, values and registers; the same ones each time.
type maker struct{ *rand.Rand }

func newMaker(seed int64) maker { return maker{rand.New(rand.NewSource(seed))} }

// kind returns a type of at most so many levels.
func (m maker) kind(levels int) api.Type {
	if levels == 1 {
		return []api.Type{unit, number, number}[m.Intn(3)]
	}
	switch m.Intn(6) {
	case 0:
		return m.kind(1)
	case 1:
		return pairOf(m.kind(levels-1), m.kind(levels-1))
	case 2:
		return sumOf(m.kind(levels-1), m.kind(levels-1))
	}
	return seqOf(m.kind(levels - 1))
}

// value returns a value of a type.
func (m maker) value(t api.Type) api.Value {
	switch t.Kind {
	case api.TypeUnit:
		return theUnit()
	case api.TypeInt:
		return word(m.Intn(9) - 2)
	case api.TypePair:
		return both(m.value(t.L[0]), m.value(t.L[1]))
	case api.TypeSum:
		if m.Intn(2) == 0 {
			return left(m.value(t.L[0]))
		}
		return right(m.value(t.L[1]))
	}
	v := seq()
	for range m.Intn(4) {
		v.L = append(v.L, m.value(t.L[0]))
	}
	return v
}

// values returns some values of a type.
func (m maker) values(t api.Type) []api.Value {
	var values []api.Value
	for range m.Intn(5) {
		values = append(values, m.value(t))
	}
	return values
}

// shared returns registers of a type with pools of so many, in which nearly all numbers are such that they may hold values.
func (m maker) shared(t api.Type, n int) held {
	h := held{t: t}
	column := func(below, off int) []int {
		reg := []int{}
		for range n {
			reg = append(reg, m.Intn(below)-off)
		}
		return reg
	}
	switch t.Kind {
	case api.TypeInt:
		h.own = [][]int{column(9, 2)}
	case api.TypeSeq:
		size := 3 + m.Intn(5)
		h.own = [][]int{column(size, 0), column(3, 0)}
		h.data = m.shared(t.L[0], size).all()
		return h
	case api.TypeSum:
		h.own = [][]int{column(2, 0)}
	}
	for _, inner := range t.L {
		part := m.shared(inner, n)
		h.own = append(h.own, part.own...)
		h.data = append(h.data, part.data...)
	}
	return h
}

// spoil changes some numbers of registers.
func (m maker) spoil(regs [][]int, many int) {
	numbers := []int{-1, 0, 1, 2, 3, 4, 7, 4096, 4097, 1 << 31, 1<<31 - 1, -1 << 31, -1<<31 - 1, 1<<63 - 1, -1 << 63}
	for range many {
		if len(regs) == 0 {
			return
		}
		reg := regs[m.Intn(len(regs))]
		if len(reg) > 0 {
			reg[m.Intn(len(reg))] = numbers[m.Intn(len(numbers))]
		}
	}
}
