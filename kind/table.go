package kind

import "sheafworks/api"

// kind is how many parts a type of a kind has, what is written ahead of these, between them and behind them, and how many registers hold its values if these hold those of its parts. Without such a function there are no values.
type kind struct {
	parts              int
	open, middle, shut string
	held               func(inner registers) registers
}

// kinds returns all kinds.
func kinds() [7]kind {
	return [...]kind{
		api.TypeUnit: {0, "unit", "", "", registers.alone},
		api.TypeInt:  {0, "int", "", "", registers.withOne},
		api.TypePair: {2, "(", " * ", ")", registers.alone},
		api.TypeSum:  {2, "(", " + ", ")", registers.withOne},
		api.TypeSeq:  {1, "[", "", "]", registers.pooled},
		api.TypeFun:  {2, "(", " -> ", ")", nil},
		api.TypeVar:  {0, "'", "", "", nil},
	}
}

// registers is how many own and data registers hold a value.
type registers struct{ own, data int }

func (r registers) alone() registers { return r }

// withOne adds a word, or a tag.
func (r registers) withOne() registers { return registers{r.own + 1, r.data} }

// pooled is a start and a length, in a pool.
func (r registers) pooled() registers { return registers{2, r.own + r.data} }

// heldBy returns which registers hold a value of a type; -1 of each sort if it is not ground.
func heldBy(t api.Type) registers {
	if !isGround(t) {
		return registers{-1, -1}
	}
	return counted(t)
}

// counted returns which registers hold a value of a ground type.
func counted(t api.Type) registers {
	var inner registers
	for part := range each(t.L, counted) {
		inner.own += part.own
		inner.data += part.data
	}
	return kinds()[t.Kind].held(inner)
}
