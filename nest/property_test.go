package nest_test

import (
	"math"
	"reflect"
	"slices"
	"sync"
	"testing"

	"sheafworks/api"
	"sheafworks/nest"
)

// P3.1 and P3.3
func TestFlattenByItsDefinition(t *testing.T) {
	m := newMaker(1)
	for range 3000 {
		kind := m.kind(1 + m.Intn(5))
		values := m.values(kind)
		own, err := nest.Own(kind)
		wantNumber(t, "Own", own, err, ownOf(kind), api.OK)
		data, err := nest.Data(kind)
		wantNumber(t, "Data", data, err, dataOf(kind), api.OK)
		regs, err := nest.Flatten(kind, values)
		wantRegs(t, "Flatten", regs, err, canonical(kind, pointers(values)).all())
		for _, v := range values {
			wantErr(t, "Check", nest.Check(v, kind), api.OK)
		}
	}
}

// P3.4
func TestBuildByItsDefinition(t *testing.T) {
	m := newMaker(2)
	right, wrong := 0, 0
	for range 20000 {
		kind, n := m.kind(1+m.Intn(5)), m.Intn(4)
		regs := m.shared(kind, n).all()
		m.spoil(regs, m.Intn(4))
		if checkBuild(t, kind, n, regs) {
			right++
		} else {
			wrong++
		}
	}
	if right < 2000 || wrong < 2000 {
		t.Errorf("%d hold values, %d do not: too few to tell", right, wrong)
	}
}

// P3.4: registers of which one is missing, or one too much, or one number is.
func TestBuildOfOtherSizes(t *testing.T) {
	m := newMaker(3)
	for range 3000 {
		kind, n := m.kind(1+m.Intn(4)), m.Intn(4)
		regs := m.shared(kind, n).all()
		checkBuild(t, kind, n, append(slices.Clone(regs), nil))
		checkBuild(t, kind, n+1, regs)
		if len(regs) == 0 {
			continue
		}
		checkBuild(t, kind, n, regs[1:])
		i := m.Intn(len(regs))
		regs[i] = append(regs[i], 1)
		checkBuild(t, kind, n, regs)
	}
}

// someHeld returns a type and registers that hold n values of it, in pools that are shared.
func (m maker) someHeld(n int) (api.Type, [][]int, []api.Value) {
	for {
		kind := m.kind(1 + m.Intn(5))
		regs := m.shared(kind, n).all()
		if values, ok := (model{map[*int]bool{}}).build(kind, n, regs); ok {
			return kind, regs, values
		}
	}
}

// P3.9
func TestThereAndBack(t *testing.T) {
	m := newMaker(4)
	for range 3000 {
		kind := m.kind(1 + m.Intn(5))
		values := m.values(kind)
		regs := flattened(t, kind, values)
		wantValues(t, "Build of Flatten", built(t, kind, len(values), regs), api.OK, values)
		canon, err := nest.Canon(kind, len(values), regs)
		wantRegs(t, "Canon of Flatten", canon, err, regs)
	}
}

// P3.5 and P3.9
func TestCanonicalRegistersTellValues(t *testing.T) {
	m := newMaker(5)
	equal, other := 0, 0
	for range 3000 {
		n := m.Intn(3)
		kind, regs, values := m.someHeld(n)
		canon, err := nest.Canon(kind, n, regs)
		wantRegs(t, "Canon", canon, err, flattened(t, kind, values))
		more := m.shared(kind, n).all()
		others, ok := model{map[*int]bool{}}.build(kind, n, more)
		if !ok {
			continue
		}
		want := areSame(values, others)
		same, err := nest.Same(kind, n, regs, more)
		if err != api.OK || same != want || sameRegs(canon, flattened(t, kind, others)) != want {
			t.Errorf("Same of %v and %v: %v, error %d; want %v", regs, more, same, err, want)
		}
		if want {
			equal++
		} else {
			other++
		}
		if same, err := nest.Same(kind, n, regs, canon); err != api.OK || !same {
			t.Errorf("Same of %v and the canonical ones: %v, error %d", regs, same, err)
		}
	}
	if equal < 300 || other < 300 {
		t.Errorf("%d are the same, %d are not: too few to tell", equal, other)
	}
}

// P3.6 and P3.10
func TestPickByItsDefinition(t *testing.T) {
	m := newMaker(6)
	for range 3000 {
		n := 1 + m.Intn(4)
		kind, regs, values := m.someHeld(n)
		var places []int
		var want []api.Value
		for range m.Intn(6) {
			place := m.Intn(n)
			places = append(places, place)
			want = append(want, values[place])
		}
		own := [][]int{}
		for _, reg := range regs[:ownOf(kind)] {
			column := []int{}
			for _, place := range places {
				column = append(column, reg[place])
			}
			own = append(own, column)
		}
		picked, err := nest.Pick(kind, n, regs, places)
		wantRegs(t, "Pick", picked, err, slices.Concat(own, regs[ownOf(kind):]))
		wantValues(t, "Build of Pick", built(t, kind, len(places), picked), api.OK, want)
	}
}

// numbers returns the numbers from one to one behind the last.
func numbers(from, to int) []int {
	var l []int
	for n := from; n < to; n++ {
		l = append(l, n)
	}
	return l
}

// P3.7 and P3.10
func TestJoinByItsDefinition(t *testing.T) {
	m := newMaker(7)
	for range 3000 {
		n, more := m.Intn(4), m.Intn(4)
		kind, regs, values := m.someHeld(n)
		other := m.shared(kind, more).all()
		others, ok := model{map[*int]bool{}}.build(kind, more, other)
		if !ok {
			continue
		}
		all, err := nest.Join(kind, n, regs, more, other)
		wantRegs(t, "Join", all, err, join(hold(kind, regs), hold(kind, other)).all())
		wantValues(t, "Build of Join", built(t, kind, n+more, all), api.OK, slices.Concat(values, others))
		first, err := nest.Pick(kind, n+more, all, numbers(0, n))
		wantErr(t, "Pick of Join", err, api.OK)
		wantValues(t, "the first ones of both", built(t, kind, n, first), api.OK, values)
		last, err := nest.Pick(kind, n+more, all, numbers(n, n+more))
		wantErr(t, "Pick of Join", err, api.OK)
		wantValues(t, "the last ones of both", built(t, kind, more, last), api.OK, others)
	}
}

// P3.11
func TestCountsOfParts(t *testing.T) {
	m := newMaker(8)
	counts := func(kind api.Type) (int, int) {
		own, err := nest.Own(kind)
		wantErr(t, "Own", err, api.OK)
		data, err := nest.Data(kind)
		wantErr(t, "Data", err, api.OK)
		return own, data
	}
	for range 1000 {
		a, b := m.kind(1+m.Intn(5)), m.kind(1+m.Intn(4))
		ownA, dataA := counts(a)
		ownB, dataB := counts(b)
		if own, data := counts(pairOf(a, b)); own != ownA+ownB || data != dataA+dataB {
			t.Errorf("of a pair: %d, %d; of its parts %d, %d and %d, %d", own, data, ownA, dataA, ownB, dataB)
		}
		_, dataOfOne := counts(seqOf(a))
		if own, data := counts(seqOf(seqOf(a))); own != 2 || data != 2+dataOfOne {
			t.Errorf("of sequences of sequences: %d, %d; Data of the inner ones %d", own, data, dataOfOne)
		}
	}
}

// P3.12
func TestWhatNoValueComesTo(t *testing.T) {
	m := newMaker(9)
	garbage := list(-1, 0, 1, 5, 4097, 1<<31, math.MinInt, math.MaxInt)
	changed := 0
	for range 5000 {
		n := m.Intn(4)
		kind, regs, values := m.someHeld(n)
		reader := model{map[*int]bool{}}
		reader.build(kind, n, regs)
		for _, reg := range regs {
			for at := range reg {
				if !reader.looked[&reg[at]] {
					reg[at] = garbage[m.Intn(len(garbage))]
					changed++
				}
			}
		}
		wantValues(t, "Build", built(t, kind, n, regs), api.OK, values)
		same, err := nest.Same(kind, n, regs, flattened(t, kind, values))
		if err != api.OK || !same {
			t.Errorf("Same of %v: %v, error %d", regs, same, err)
		}
	}
	if changed < 5000 {
		t.Errorf("%d numbers changed: too few to tell", changed)
	}
}

// answer is what a call returns.
type answer struct {
	regs   [][]int
	values []api.Value
	number int
	holds  bool
	err    api.Errno
}

// question is arguments for all functions.
type question struct {
	kind        api.Type
	values      []api.Value
	n, m        int
	regs, other [][]int
	places      []int
}

// answers calls all functions.
func (q question) answers() []answer {
	own, err := nest.Own(q.kind)
	all := []answer{{number: own, err: err}}
	data, err := nest.Data(q.kind)
	all = append(all, answer{number: data, err: err})
	for _, v := range q.values {
		size, err := nest.Size(v)
		all = append(all, answer{number: size, err: err}, answer{holds: nest.Valid(v), err: nest.Check(v, q.kind)})
	}
	regs, err := nest.Flatten(q.kind, q.values)
	all = append(all, answer{regs: regs, err: err})
	values, err := nest.Build(q.kind, q.n, q.regs)
	all = append(all, answer{values: values, err: err})
	same, err := nest.Same(q.kind, q.n, q.regs, q.other)
	all = append(all, answer{holds: same, err: err})
	regs, err = nest.Canon(q.kind, q.n, q.regs)
	all = append(all, answer{regs: regs, err: err})
	regs, err = nest.Pick(q.kind, q.n, q.regs, q.places)
	all = append(all, answer{regs: regs, err: err})
	regs, err = nest.Join(q.kind, q.n, q.regs, q.m, q.other)
	return append(all, answer{regs: regs, err: err})
}

// spoilRegs overwrites registers, with the room behind them.
func spoilRegs(regs [][]int) {
	for _, reg := range regs {
		reg = reg[:cap(reg)]
		for i := range reg {
			reg[i] = -77
		}
	}
	clear(regs[:cap(regs)])
}

// spoilValues overwrites values, with the room behind them.
func spoilValues(values []api.Value) {
	for _, v := range values {
		spoilValues(v.L)
	}
	values = values[:cap(values)]
	for i := range values {
		values[i] = api.Value{Kind: -77}
	}
}

// questions returns arguments of all kinds; those of the same seed are the same.
func questions(seed int64) []question {
	m := newMaker(seed)
	var all []question
	for range 150 {
		n, more := m.Intn(4), m.Intn(4)
		kind, regs, values := m.someHeld(n)
		q := question{kind, m.values(kind), n, more, regs, m.shared(kind, more).all(), nil}
		if m.Intn(2) == 0 {
			q.values = values
			q.m, q.other = n, m.shared(kind, n).all()
		}
		for range m.Intn(4) {
			q.places = append(q.places, m.Intn(n+1))
		}
		all = append(all, q)
	}
	for _, x := range badTypes() {
		all = append(all, question{kind: x.kind, values: []api.Value{word(1)}, n: 1, regs: registers("1"), other: registers("1")})
	}
	for _, v := range badNodes() {
		all = append(all, question{kind: either, values: []api.Value{v, seq(v)}})
	}
	for _, x := range badRegisters {
		all = append(all, question{kind: x.kind, n: x.n, m: x.n, regs: x.regs, other: x.regs})
	}
	return all
}

// P1, P13 and P3.8: no call changes what it is given or keeps it, and each is answered the same again, whatever was done with the first answers, also at the same time.
func TestAnyArgumentsAgain(t *testing.T) {
	var wait sync.WaitGroup
	asked := questions(10)
	for _, q := range asked {
		for range 2 {
			wait.Go(func() {
				first := q.answers()
				again := q.answers()
				for _, x := range first {
					spoilRegs(x.regs)
					spoilValues(x.values)
				}
				if third := q.answers(); !reflect.DeepEqual(again, third) {
					t.Errorf("answered %v, then %v", again, third)
				}
			})
		}
	}
	wait.Wait()
	for i, q := range asked {
		if i < 150 && !reflect.DeepEqual(q, questions(10)[i]) {
			t.Fatalf("arguments have changed: %v", q)
		}
	}
}

// P3.8: lists of one result share no memory, nor do values that are shared in registers.
func TestListsOfAResultAreApart(t *testing.T) {
	values := built(t, seqOf(rows), 2, registers("0 0; 2 2; 0 0; 2 2; 0 0; 2 2; 5 6"))
	row := seq(words(5, 6), words(5, 6))
	spoilValues(values[0].L[0].L[0].L)
	wantValues(t, "the others", []api.Value{values[0].L[0].L[1], values[0].L[1], values[1]}, api.OK, []api.Value{words(5, 6), row, seq(row, row)})
	regs := registers("0 3; 3 1; 0 2 2 3; 2 0 1 1; 5 6 7 8")
	for name, ask := range map[string]func() ([][]int, api.Errno){
		"Flatten": func() ([][]int, api.Errno) { return nest.Flatten(rows, []api.Value{exampleU(), exampleW()}) },
		"Canon":   func() ([][]int, api.Errno) { return nest.Canon(rows, 2, regs) },
		"Pick":    func() ([][]int, api.Errno) { return nest.Pick(rows, 2, regs, list(0, 1)) },
		"Join":    func() ([][]int, api.Errno) { return nest.Join(rows, 2, regs, 0, registers(";;;;")) },
	} {
		for i := range regs {
			got, err := ask()
			spoilRegs([][]int{got[i]})
			for k := range got {
				if i != k {
					wantRegs(t, name, got[k:k+1], err, regs[k:k+1])
				}
			}
		}
	}
}
