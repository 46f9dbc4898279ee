package rank_test

import (
	"math"
	"math/rand"
	"reflect"
	"slices"
	"sync"
	"testing"

	"sheafworks/api"
)

// lists returns both lists of a call, which must not be refused.
func (c call) lists(t *testing.T) (first, second []int) {
	t.Helper()
	a := c.do()
	if a.err != api.OK {
		t.Fatalf("%s: error %d", c, a.err)
	}
	return a.first, a.second
}

// first returns the first list of a call.
func (c call) first(t *testing.T) []int {
	t.Helper()
	first, _ := c.lists(t)
	return first
}

// inverse, compose and ordered return what the functions do, for what must not be refused.
func inverse(t *testing.T, places []int) []int {
	t.Helper()
	return call{name: "Inverse", l: places}.first(t)
}

func compose(t *testing.T, first, second []int) []int {
	t.Helper()
	return call{name: "Compose", l: first, by: second}.first(t)
}

func ordered(t *testing.T, l, lens []int) []int {
	t.Helper()
	return call{name: "Order", l: l, by: lens}.first(t)
}

// sameLists checks that two lists that should be the same are.
func sameLists(t *testing.T, law string, a, b []int) {
	t.Helper()
	if !slices.Equal(a, b) {
		t.Errorf("%s: %s, and %s", law, short(a), short(b))
	}
}

// rounds calls do often, with random lists in segments that are the same each time.
func rounds(do func(r *rand.Rand, l, lens []int)) {
	r := rand.New(rand.NewSource(2))
	for range 300 {
		l := scattered(r, r.Intn(90))
		do(r, l, lengthsOf(r, len(l)))
	}
}

// P7.8
func TestPlacesLeadBack(t *testing.T) {
	rounds(func(r *rand.Rand, l, _ []int) {
		p, q, s, stay := r.Perm(len(l)), r.Perm(len(l)), r.Perm(len(l)), upTo(len(l))
		sameLists(t, "inverted twice", inverse(t, inverse(t, p)), p)
		sameLists(t, "there and back", compose(t, p, inverse(t, p)), stay)
		sameLists(t, "back and there", compose(t, inverse(t, p), p), stay)
		sameLists(t, "associative", compose(t, compose(t, p, q), s), compose(t, p, compose(t, q, s)))
		sameLists(t, "moved by both", moved(l, compose(t, p, q)), moved(moved(l, p), q))
		sameLists(t, "moved there and back", moved(moved(l, p), inverse(t, p)), l)
	})
}

// Definitions: places keep segments, and lead all elements to somewhere.
func TestSegmentsAreKept(t *testing.T) {
	rounds(func(r *rand.Rand, l, lens []int) {
		owners := bySegments(l, lens, func([]int, int) int { return 0 }) // where the segment of each element begins
		for _, name := range []string{"Split", "Passes", "Order"} {
			c := call{name, l, lens, r.Intn(33)}
			places := c.first(t)
			call{name: "Check", l: places}.want(t, answer{})
			sameLists(t, c.String()+" keeps segments", moved(owners, places), owners)
		}
	})
}

// checkSorted checks that places sort segments stably, by what key makes of words.
func checkSorted(t *testing.T, law string, l, lens, places []int, key func(n int) int) {
	t.Helper()
	keys := make([]int, len(l))
	for i, n := range l {
		keys[i] = key(n)
	}
	numbers := cut(inverse(t, places), lens)
	for i, part := range cut(moved(keys, places), lens) {
		for k := range part {
			if k > 0 && (part[k] < part[k-1] || part[k] == part[k-1] && numbers[i][k] < numbers[i][k-1]) {
				t.Fatalf("%s: %s, %s: %s", law, short(l), short(lens), short(places))
			}
		}
	}
}

// P7.4, P7.9
func TestSplitsSort(t *testing.T) {
	rounds(func(r *rand.Rand, l, lens []int) {
		order := ordered(t, l, lens)
		checkSorted(t, "Order", l, lens, order, func(n int) int { return n })
		call{"Passes", l, lens, 32}.want(t, got(order))
		for k := range 32 {
			places := call{"Passes", l, lens, k}.first(t)
			checkSorted(t, "Passes", l, lens, places, func(n int) int { return (n - low) % (1 << k) })
			bits := bitsOf(moved(l, places), k)
			more := compose(t, places, call{name: "Split", l: bits, by: lens}.first(t))
			call{"Passes", l, lens, k + 1}.want(t, got(more))
		}
	})
}

// byMerging sorts a list by merging its halves, and returns to where its elements go.
func byMerging(t *testing.T, l []int) []int {
	if len(l) < 2 {
		return upTo(len(l))
	}
	half := len(l) / 2
	a, b := byMerging(t, l[:half]), byMerging(t, l[half:])
	first, second := call{name: "Merge", l: moved(l[:half], a), by: moved(l[half:], b)}.lists(t)
	return slices.Concat(composeValue(a, first), composeValue(b, second))
}

// P7.10
func TestMergedIsSorted(t *testing.T) {
	rounds(func(r *rand.Rand, l, _ []int) {
		a, b := sorted(l), sorted(scattered(r, r.Intn(90)))
		all := slices.Concat(a, b)
		first, second := call{name: "Merge", l: a, by: b}.lists(t)
		places := slices.Concat(first, second)
		sameLists(t, "merged, and sorted", places, ordered(t, all, list(len(all))))
		sameLists(t, "merged words", moved(all, places), sorted(all))
		sameLists(t, "merged by halves, and sorted", byMerging(t, l), ordered(t, l, list(len(l))))
	})
}

// P7.11
func TestRanksAreInOrder(t *testing.T) {
	rounds(func(r *rand.Rand, l, lens []int) {
		ranks := call{name: "Ranks", l: l, by: lens}.first(t)
		places, many := call{name: "Firsts", l: l, by: lens}.lists(t)
		if !slices.IsSorted(places) {
			t.Errorf("Firsts %s, %s: %s", short(l), short(lens), short(places))
		}
		words, begin := cut(l, lens), 0
		for i, part := range cut(ranks, lens) {
			for x, rank := range part {
				for y, other := range part {
					if (rank < other) != (words[i][x] < words[i][y]) || (rank == other) != (words[i][x] == words[i][y]) {
						t.Errorf("Ranks %s: %s", short(words[i]), short(part))
					}
				}
			}
			different := slices.Compact(sorted(part))
			sameLists(t, "all ranks", different, upTo(many[i]))
			firsts := places[:many[i]]
			places = places[many[i]:]
			var ofFirsts []int
			for _, place := range firsts {
				if place < begin || place >= begin+len(part) {
					t.Fatalf("Firsts %s, %s: %d in the segment %d", short(l), short(lens), place, i)
				}
				ofFirsts = append(ofFirsts, ranks[place])
			}
			sameLists(t, "ranks of the firsts", sorted(ofFirsts), different)
			begin += len(part)
		}
		if len(places) > 0 {
			t.Errorf("Firsts %s, %s: %d more", short(l), short(lens), len(places))
		}
	})
}

// names are those of all functions.
func names() []string { return append([]string{"Check", "Inverse", "Compose", "Merge"}, inSegments...) }

// answers calls all functions with two lists and a number.
func answers(a, b []int, bits int) []answer {
	var all []answer
	for _, name := range names() {
		all = append(all, call{name, a, b, bits}.do())
	}
	return all
}

// spoil overwrites what is in an answer, with the room behind it.
func (a answer) spoil() {
	for _, l := range several(a.first, a.second) {
		overwrite(l[:cap(l)])
	}
}

func overwrite(l []int) {
	for i := range l {
		l[i] = -7
	}
}

// someLists returns lists of all kinds of numbers.
func someLists() [][]int {
	return [][]int{nil, {}, {0}, {1}, {2}, {-1}, {0, 0}, {1, 0}, {0, 1}, {1, 1}, {2, 0}, {1, -1}, {3, -1}, {2, 0, 1}, {1, 2, 0}, {0, 1, 1}, {3, 1, 0, 2}, {4}, {2, 2}, {1, 2, 3, 4},
		{most}, {most + 1}, {low}, {high}, {high, high}, {low, high}, {low - 1}, {0, high + 1}, {math.MaxInt}, {math.MinInt}, {math.MaxInt, math.MinInt, 2}}
}

// P1 and P13: no call panics, and each is answered the same, whatever was done with the first answers, also at the same time.
func TestAnyArgumentsAgain(t *testing.T) {
	var wait sync.WaitGroup
	all := someLists()
	for _, a := range all {
		wait.Go(func() {
			for _, b := range all {
				for _, bits := range list(-1, 0, 1, 31, 32, 33, math.MinInt, math.MaxInt) {
					first, again := answers(a, b, bits), answers(a, b, bits)
					for _, x := range first {
						x.spoil()
					}
					if !slices.EqualFunc(again, answers(a, b, bits), answer.same) {
						t.Errorf("other answers for %s, %s, %d", short(a), short(b), bits)
					}
				}
			}
		})
	}
	wait.Wait()
	if !reflect.DeepEqual(all, someLists()) {
		t.Errorf("arguments have changed")
	}
}

// fitting returns calls that are answered with numbers that arguments have too.
func fitting() []call {
	return []call{
		{name: "Check", l: list(1, 0)}, {name: "Inverse", l: list(1, 0)}, {name: "Inverse", l: list(0)}, {name: "Compose", l: list(0, 1), by: list(1, 0)},
		{name: "Compose", l: list(1, 0), by: list(0, 1)}, {name: "Split", l: list(0, 1), by: list(2)}, {name: "Passes", l: list(0, 1), by: list(2)},
		{name: "Passes", l: list(1, 0), by: list(2), bits: 32}, {name: "Order", l: list(0, 1), by: list(1, 1)}, {name: "Order", l: list(1, 0), by: list(2)},
		{name: "Merge", l: list(0, 1)}, {name: "Merge", by: list(0, 1)}, {name: "Merge", l: list(0, 2), by: list(1, 3)}, {name: "Ranks", l: list(0, 1), by: list(2)},
		{name: "Ranks", l: list(1, 0), by: list(2)}, {name: "Firsts", l: list(0, 1), by: list(1, 1)}, {name: "Firsts", l: list(0, 1), by: list(2)},
	}
}

// withRoom returns a list with room behind it, with a number in it; hasRoom reports whether the number is still there.
func withRoom(l []int) []int { return append(slices.Clone(l), -9, -9, -9)[:len(l)] }

func hasRoom(l []int) bool { return slices.Equal(l[len(l):len(l)+3], list(-9, -9, -9)) }

// P7.7: results are other memory than arguments and other results, and neither arguments nor the room behind them change.
func TestResultsAreNewMemory(t *testing.T) {
	for _, plain := range fitting() {
		c := plain
		c.l, c.by = withRoom(c.l), withRoom(c.by)
		a := c.do()
		if a.err != api.OK {
			t.Errorf("%s: error %d", c, a.err)
		}
		kept := answer{first: slices.Clone(a.first), second: slices.Clone(a.second)}
		overwrite(a.second[:cap(a.second)])
		sameLists(t, "a result, the other one spoilt", a.first, kept.first)
		copy(a.second, kept.second)
		overwrite(a.first[:cap(a.first)])
		sameLists(t, "a result, the other one spoilt", a.second, kept.second)
		a.spoil()
		if c.String() != plain.String() || !hasRoom(c.l) || !hasRoom(c.by) {
			t.Errorf("%s has become %s", plain, c)
		}
		again := c.do()
		overwrite(c.l[:cap(c.l)])
		overwrite(c.by[:cap(c.by)])
		if !again.same(kept) {
			t.Errorf("%s: %s, its arguments spoilt %s", plain, kept, again)
		}
	}
}
