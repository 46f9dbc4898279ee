package nest

import (
	"iter"

	"sheafworks/api"
)

// traits is what a kind of data type has.
type traits struct {
	parts     int // how many parts the type has
	value     int // of which kind its values are
	registers int // how many own registers it has beside those of its parts
}

var kinds = [...]traits{
	api.TypeUnit: {0, api.ValueUnit, 0},
	api.TypeInt:  {0, api.ValueInt, 1}, // the word
	api.TypePair: {2, api.ValuePair, 0},
	api.TypeSum:  {2, api.ValueSum, 1}, // the tag
	api.TypeSeq:  {1, api.ValueSeq, 2}, // the start, the length
}

// checkType returns ErrLong if a type has too many nodes or levels, and ErrType if it is no data type.
func checkType(t api.Type) api.Errno {
	many, err := 0, api.OK
	for level, node := range nodes(t, typeParts) {
		many++
		if many > api.TypeSize || level > api.TypeDeep {
			return api.ErrLong
		}
		if !isData(node) {
			err = api.ErrType // not returned yet: ErrLong comes ahead of it
		}
	}
	return err
}

// isData reports whether a node of a type may be one of a data type.
func isData(t api.Type) bool {
	return t.Kind >= 0 && t.Kind < len(kinds) && len(t.L) == kinds[t.Kind].parts && t.N == 0
}

func typeParts(t api.Type) []api.Type { return t.L }

// nodes produces a tree and all that is in it, in preorder, with its levels. Whoever ranges over it leaves as soon as there is too much of it: a list that has itself in it has no end.
func nodes[T any](tree T, parts func(T) []T) iter.Seq2[int, T] {
	return func(yield func(int, T) bool) {
		var visit func(level int, node T) bool
		visit = func(level int, node T) bool {
			if !yield(level, node) {
				return false
			}
			for _, part := range parts(node) {
				if !visit(level+1, part) {
					return false
				}
			}
			return true
		}
		visit(1, tree)
	}
}

// counter is how many registers values of a type have.
type counter struct{ own, data int }

// layout is a data type with the places of its registers in the list of all of them.
type layout struct {
	counter
	kind  int
	at    int // of its first own register: the word, the tag, or the start, with the length behind it
	parts []layout
}

// layoutOf returns the layout of a type, with the errors of checkType.
func layoutOf(t api.Type) (layout, api.Errno) {
	if err := checkType(t); err != api.OK {
		return layout{}, err
	}
	l := counted(t)
	l.place(0, l.own)
	return l, api.OK
}

// counted returns the layout of a type without the places.
func counted(t api.Type) layout {
	l := layout{kind: t.Kind}
	l.own = kinds[t.Kind].registers
	for _, inner := range t.L {
		part := counted(inner)
		if t.Kind == api.TypeSeq {
			l.data += part.own // of its pool
		} else {
			l.own += part.own
		}
		l.data += part.data
		l.parts = append(l.parts, part)
	}
	return l
}

// place sets the places, from those where the own registers and the data registers begin.
func (l *layout) place(own, data int) {
	l.at = own
	own += kinds[l.kind].registers
	for i := range l.parts {
		part := &l.parts[i]
		if l.kind == api.TypeSeq {
			own, data = data, data+part.own // the pool is data of the sequence
		}
		part.place(own, data)
		own += part.own
		data += part.data
	}
}

func layoutParts(l layout) []layout { return l.parts }

// pools produces the part of each sequence, whose own registers are those of a pool, with the register of the sequence's starts.
func (l layout) pools() iter.Seq2[int, layout] {
	return func(yield func(int, layout) bool) {
		for _, node := range nodes(l, layoutParts) {
			if node.kind == api.TypeSeq && !yield(node.at, node.parts[0]) {
				return
			}
		}
	}
}

// registers produces the own registers of a type, and then those of each pool in it, with how many numbers each of them must have.
func (l layout) registers(n int, regs [][]int) iter.Seq2[int, [][]int] {
	return func(yield func(int, [][]int) bool) {
		if !yield(n, l.ownOf(regs)) {
			return
		}
		for _, pool := range l.pools() {
			if !yield(pool.size(regs), pool.ownOf(regs)) {
				return
			}
		}
	}
}

// ownOf returns the own registers of a part among all registers.
func (l layout) ownOf(regs [][]int) [][]int { return regs[l.at : l.at+l.own] }

// size returns the size of the pool whose elements are of this part; 0 if it has no own registers, and so no bound.
func (l layout) size(regs [][]int) int {
	if l.own == 0 {
		return 0
	}
	return len(regs[l.at])
}
