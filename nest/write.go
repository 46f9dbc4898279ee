package nest

import "sheafworks/api"

// writer writes values to registers. Of each sequence of the type, by the register of its starts, ahead is how many elements its pool has; of units the registers do not tell.
type writer struct {
	regs  [][]int
	ahead []int
}

// write returns the canonical registers of values.
func (l layout) write(values []api.Value) [][]int {
	w := writer{make([][]int, l.own+l.data), make([]int, l.own+l.data)}
	for _, v := range values {
		w.value(l, v)
	}
	return w.regs
}

// value writes a value of a part: its own numbers, and then what is in it.
func (w writer) value(l layout, v api.Value) {
	switch l.kind {
	case api.TypeInt:
		w.put(l.at, v.N)
	case api.TypeSum:
		w.put(l.at, v.N)
		w.nothing(l.parts[1-v.N])
	case api.TypeSeq:
		w.put(l.at, w.ahead[l.at])
		w.put(l.at+1, len(v.L))
		w.ahead[l.at] += len(v.L)
	}
	for i, part := range v.L {
		w.value(l.parts[side(v, i)], part)
	}
}

// nothing writes what there is instead of a value, of a part of a sum that the value is not.
func (w writer) nothing(l layout) {
	for i := range l.own {
		w.put(l.at+i, 0)
	}
}

// put writes a number behind those of a register.
func (w writer) put(reg, n int) { w.regs[reg] = append(w.regs[reg], n) }
