package prim_test

import (
	"math"
	"math/rand"
	"reflect"
	"slices"
	"sync"
	"testing"

	"sheafworks/api"
	"sheafworks/prim"
)

// ok returns a list that comes without an error.
func ok(t *testing.T) func([]int, api.Errno) []int {
	return func(got []int, err api.Errno) []int {
		t.Helper()
		if err != api.OK {
			t.Fatalf("error %d", err)
		}
		return got
	}
}

// same checks that two lists that should be the same are.
func same(t *testing.T, law string, a, b []int) {
	t.Helper()
	if !slices.Equal(a, b) {
		t.Errorf("%s: %s, and %s", law, short(a), short(b))
	}
}

// rounds calls do often, with random numbers that are the same each time.
func rounds(do func(r *rand.Rand, many int)) {
	r := rand.New(rand.NewSource(2))
	for range 500 {
		do(r, r.Intn(30))
	}
}

// P4.7
func TestPackedAndMerged(t *testing.T) {
	of := ok(t)
	rounds(func(r *rand.Rand, many int) {
		flags, a := flagsOf(r, many), scattered(r, many, low, high+1)
		others := of(prim.Bin(api.OpSame, flags, of(prim.Fill(0, flags))))
		x, y := of(prim.Pack(flags, a)), of(prim.Pack(others, a))
		same(t, "packed and merged", of(prim.Merge(flags, x, y)), a)
		x, y = scattered(r, len(x), low, high+1), scattered(r, len(y), low, high+1)
		merged := of(prim.Merge(flags, x, y))
		same(t, "merged and packed", of(prim.Pack(flags, merged)), x)
		same(t, "merged and packed by the others", of(prim.Pack(others, merged)), y)
		same(t, "merged the other way round", of(prim.Merge(others, y, x)), merged)
	})
}

// P4.8
func TestPlacesLeadBack(t *testing.T) {
	of := ok(t)
	rounds(func(r *rand.Rand, many int) {
		a, places := scattered(r, many, low, high+1), r.Perm(many)
		put := of(prim.Put(a, places))
		same(t, "put and gathered", of(prim.Gather(put, places)), a)
		same(t, "gathered and put", of(prim.Put(of(prim.Gather(a, places)), places)), a)
		back := of(prim.Put(of(prim.Iota(list(many))), places))
		same(t, "put, and gathered at the places that lead back", of(prim.Gather(a, back)), put)
		if many == 0 {
			return
		}
		first := scattered(r, 1+r.Intn(40), 0, many)
		then := scattered(r, r.Intn(40), 0, len(first))
		twice := of(prim.Gather(of(prim.Gather(a, first)), then))
		same(t, "gathered twice and at once", twice, of(prim.Gather(a, of(prim.Gather(first, then)))))
	})
}

// P4.9
func TestRepeated(t *testing.T) {
	of := ok(t)
	rounds(func(r *rand.Rand, many int) {
		a, times := scattered(r, many, low, high+1), scattered(r, many, 0, 6)
		all := of(prim.Iota(list(many)))
		repeated, owners, within := of(prim.Rep(a, times)), of(prim.Rep(all, times)), of(prim.Iota(times))
		same(t, "repeated, and gathered at the places repeated", repeated, of(prim.Gather(a, owners)))
		var wantOwners, wantWithin []int
		for place, n := range times {
			if count(owners, place) != n {
				t.Errorf("Rep: %d times the place %d of %s", count(owners, place), place, short(times))
			}
			for i := range n {
				wantOwners, wantWithin = append(wantOwners, place), append(wantWithin, i)
			}
		}
		same(t, "places repeated", owners, wantOwners)
		same(t, "places within", within, wantWithin)
	})
}

// alike is a way to make one list of two, or of one: the same way for several lists that are as long.
type alike struct {
	name string
	do   func(a, b []int) []int
}

// waysAlike returns such ways, for a of so many words.
func waysAlike(t *testing.T, r *rand.Rand, many int) []alike {
	of := ok(t)
	flags, places := flagsOf(r, many), list()
	if many > 0 {
		places = scattered(r, r.Intn(40), 0, many)
	}
	return []alike{
		{"put together", func(a, b []int) []int { return of(prim.Cat(a, b)) }},
		{"gathered", func(a, b []int) []int { return of(prim.Gather(a, places)) }},
		{"packed", func(a, b []int) []int { return of(prim.Pack(flags, a)) }},
	}
}

// P4.10
func TestPlaceByPlace(t *testing.T) {
	of := ok(t)
	rounds(func(r *rand.Rand, many int) {
		others, op := r.Intn(30), r.Intn(api.WordOps)
		// The second word of a division must not be 0.
		a, b, flags := scattered(r, many, low, high+1), scattered(r, many, 1, high+1), flagsOf(r, many)
		a2, b2, flags2 := scattered(r, others, low, high+1), scattered(r, others, low, 0), flagsOf(r, others)
		for _, way := range waysAlike(t, r, many) {
			ofMade := of(prim.Bin(op, way.do(a, a2), way.do(b, b2)))
			same(t, "Bin, "+way.name, ofMade, way.do(of(prim.Bin(op, a, b)), of(prim.Bin(op, a2, b2))))
			ofMade = of(prim.Pick(way.do(flags, flags2), way.do(a, a2), way.do(b, b2)))
			same(t, "Pick, "+way.name, ofMade, way.do(of(prim.Pick(flags, a, b)), of(prim.Pick(flags2, a2, b2))))
			ofMade = of(prim.Off(way.do(a, a2), flags))
			same(t, "Off, "+way.name, ofMade, way.do(of(prim.Off(a, flags)), of(prim.Off(a2, flags))))
		}
	})
}

// P4.11
func TestWovenIsPut(t *testing.T) {
	of := ok(t)
	rounds(func(r *rand.Rand, many int) {
		all := make([][]int, r.Intn(6))
		var behind, places []int
		for k := range all {
			all[k] = scattered(r, many, low, high+1)
			behind = of(prim.Cat(behind, all[k]))
			for i := range many {
				places = append(places, i*len(all)+k)
			}
		}
		same(t, "woven and put", of(prim.Weave(all)), of(prim.Put(behind, places)))
	})
}

// answer is what a call returned.
type answer struct {
	list []int
	err  api.Errno
}

// answers calls all functions with two lists and a number: where they have more lists, the first one comes again.
func answers(n int, a, b []int) []answer {
	var all []answer
	for _, f := range functions() {
		got, err := f.call(n, [][]int{a, b, a}[:f.lists])
		all = append(all, answer{got, err})
	}
	got, err := prim.Weave([][]int{a, b})
	return append(all, answer{got, err})
}

// sameAnswers reports whether answers are the same; a nil list is an empty one.
func sameAnswers(a, b []answer) bool {
	return slices.EqualFunc(a, b, func(x, y answer) bool { return x.err == y.err && slices.Equal(x.list, y.list) })
}

// spoil overwrites the lists of answers, with the room behind them.
func spoil(all []answer) {
	for _, x := range all {
		for i := range x.list[:cap(x.list)] {
			x.list[:cap(x.list)][i] = -7
		}
	}
}

// someLists returns lists of all kinds of numbers.
func someLists() [][]int {
	return [][]int{nil, {}, {0}, {1}, {-1}, {0, 0}, {2, 0, 3}, {0, 2, 1}, {1, 0, 2}, {0, 1, 1, 0}, {5, 4, 3}, {1, 2}, {1, 1}, {3, 1, 0, 2},
		{most}, {most + 1}, {1, most}, {low}, {high}, {high, high}, {low - 1}, {0, high + 1}, {math.MaxInt}, {math.MinInt}, {math.MaxInt, math.MaxInt, 2}, {math.MinInt, math.MinInt}}
}

// P1, P13 and P4.6: no call panics, none changes or keeps a list that it is given, and each is answered the same, whatever was done with the first answers, also at the same time.
func TestAnyArgumentsAgain(t *testing.T) {
	var wait sync.WaitGroup
	all := someLists()
	for _, a := range all {
		wait.Go(func() {
			for _, b := range all {
				for _, n := range list(0, api.OpDiv, api.OpXor, 12, -1, low, high+1, math.MaxInt, math.MinInt) {
					first, again := answers(n, a, b), answers(n, a, b)
					spoil(first)
					if third := answers(n, a, b); !sameAnswers(again, third) {
						t.Errorf("answered %v, then %v", again, third)
					}
				}
			}
		})
	}
	wait.Wait()
	if !reflect.DeepEqual(all, someLists()) {
		t.Errorf("arguments have changed")
	}
}

// fitting returns lists that fit each function, mostly those whose words come back as they are.
func fitting() map[string][][]int {
	return map[string][][]int{
		"Fill": several(list(1, 2)), "Bin": several(list(1, 2), list(3, 4)), "Pick": several(list(1, 1), list(1, 2), list(3, 4)),
		"Pack": several(list(1, 1), list(1, 2)), "Merge": several(list(1, 1), list(1, 2), list()), "Gather": several(list(1, 2), list(0, 1)),
		"Put": several(list(1, 2), list(0, 1)), "Iota": several(list(1, 2)), "Rep": several(list(1, 2), list(1, 1)), "Cat": several(list(1, 2), list()),
		"Off": several(list(1, 2), list()), "Len": several(list(1, 2)), "Weave": several(list(1, 2)), "Trap": several(list(0, 0)),
	}
}

// P4.6, R4: results whose words are those of an argument are other memory, and a call does not look at the room behind its arguments.
func TestResultsAreNewMemory(t *testing.T) {
	for _, f := range functions() {
		for _, room := range list(0, 9) {
			l := fitting()[f.name]
			for i, a := range l {
				l[i] = append(a, filled(room, -9)...)[:len(a)]
			}
			was := fitting()[f.name]
			got, err := f.call(0, l)
			kept := slices.Clone(got)
			if err != api.OK || len(got) == 0 && f.name != "Trap" {
				t.Errorf("%s: %s, error %d", f.name, short(got), err)
			}
			spoil([]answer{{got, err}})
			checkUnchanged(t, f.name, l, was, room)
			again, err := f.call(0, l)
			want(t, tell(f.name, 0, l), again, err, kept, api.OK)
			for _, a := range l {
				spoil([]answer{{list: a}})
			}
			want(t, f.name+", its arguments spoilt", again, err, kept, api.OK)
		}
	}
}

// checkUnchanged checks that lists, and the room behind them, are as they were.
func checkUnchanged(t *testing.T, name string, l, was [][]int, room int) {
	t.Helper()
	for i, a := range l {
		if behind := a[len(a) : len(a)+room]; !slices.Equal(a, was[i]) || count(behind, -9) != room {
			t.Errorf("%s: its list %d has become %s, with %s behind it", name, i, short(a), short(behind))
		}
	}
}
