package nest

import (
	"cmp"
	"maps"
	"slices"

	"sheafworks/api"
)

// read returns the layout of a type, and the n values of it that registers hold.
func read(t api.Type, n int, regs [][]int) (l layout, values []api.Value, e api.Errno) {
	defer func() {
		if wrong := recover(); wrong != nil {
			l, values, e = layout{}, nil, wrong.(api.Errno)
		}
	}()
	l, err := layoutOf(t)
	if err != api.OK {
		panic(err)
	}
	if n < 0 || n > api.ValueMost {
		panic(api.ErrRange)
	}
	if !l.fits(n, regs) {
		panic(api.ErrForm)
	}
	reader{regs}.check(l, union(map[span]bool{{0, n}: true}))
	return l, l.build(n, regs), api.OK
}

// fits reports whether there are as many registers, with as many numbers each, as n values have.
func (l layout) fits(n int, regs [][]int) bool {
	if len(regs) != l.own+l.data {
		return false
	}
	even := true
parts:
	for size, part := range l.registers(n, regs) {
		for _, reg := range part {
			if len(reg) != size {
				even = false
				break parts
			}
		}
	}
	return even
}

// reader checks that what is reached in registers is right; its methods panic with ErrForm where it is not. They go through the type once, with all places that are reached of each part of it: values that are shared may be too many to be looked at one by one.
type reader struct{ regs [][]int }

// check checks the values of a part at some places, whatever its kind.
func (r reader) check(l layout, places []int) {
	checks := [...]func(reader, layout, []int){
		api.TypeUnit: reader.unit,
		api.TypeInt:  reader.word,
		api.TypePair: reader.pair,
		api.TypeSum:  reader.sum,
		api.TypeSeq:  reader.sequence,
	}
	checks[l.kind](r, l, places)
}

func (r reader) unit(layout, []int) {}

func (r reader) word(l layout, places []int) {
	for _, at := range places {
		if !isWord(r.regs[l.at][at]) {
			panic(api.ErrForm)
		}
	}
}

func (r reader) pair(l layout, places []int) {
	for _, part := range l.parts {
		r.check(part, places)
	}
}

func (r reader) sum(l layout, places []int) {
	var sides [2][]int
	for _, at := range places {
		tag := r.regs[l.at][at]
		if !isTag(tag) {
			panic(api.ErrForm)
		}
		sides[tag] = append(sides[tag], at)
	}
	for tag, part := range l.parts {
		r.check(part, sides[tag])
	}
}

func (r reader) sequence(l layout, places []int) {
	pool := l.parts[0]
	reached := map[span]bool{}
	for _, at := range places {
		s := span{r.regs[l.at][at], r.regs[l.at+1][at]}
		if !r.inPool(s, pool) {
			panic(api.ErrForm)
		}
		if s.length > 0 {
			reached[s] = true
		}
	}
	// Units are always right, and may be at any place there is a number for.
	if pool.own > 0 {
		r.check(pool, union(reached))
	}
}

// inPool reports whether a sequence may have this start and this length in a pool.
func (r reader) inPool(s span, pool layout) bool {
	if s.length < 0 || s.length > api.SeqMost {
		return false
	}
	if s.length == 0 {
		return true
	}
	// Start and length are not added here: their sum could overflow.
	return s.start >= 0 && (pool.own == 0 || s.start <= pool.size(r.regs)-s.length)
}

// span is places side by side: so many, from the start on.
type span struct{ start, length int }

// union returns the places of all spans that are there, each place once, in order.
func union(reached map[span]bool) []int {
	byStart := func(a, b span) int { return cmp.Compare(a.start, b.start) }
	var places []int
	behind := 0 // all places ahead of it are dealt with
	for _, s := range slices.SortedFunc(maps.Keys(reached), byStart) {
		end := s.start + s.length
		for at := max(s.start, behind); at < end; at++ {
			places = append(places, at)
		}
		behind = max(behind, end)
	}
	return places
}

// build returns the n values of registers that were checked; it panics with ErrLong if these have too many nodes together.
func (l layout) build(n int, regs [][]int) []api.Value {
	many := 0
	var value func(l layout, at int) api.Value
	value = func(l layout, at int) api.Value {
		many++
		if many > api.ValueMost {
			panic(api.ErrLong)
		}
		v := api.Value{Kind: kinds[l.kind].value}
		switch l.kind {
		case api.TypeInt:
			v.N = regs[l.at][at]
		case api.TypePair:
			v.L = []api.Value{value(l.parts[0], at), value(l.parts[1], at)}
		case api.TypeSum:
			v.N = regs[l.at][at]
			v.L = []api.Value{value(l.parts[v.N], at)}
		case api.TypeSeq:
			start, length := regs[l.at][at], regs[l.at+1][at]
			for i := range length {
				v.L = append(v.L, value(l.parts[0], start+i))
			}
		}
		return v
	}
	var values []api.Value
	for at := range n {
		values = append(values, value(l, at))
	}
	return values
}
