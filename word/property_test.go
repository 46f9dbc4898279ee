package word_test

import (
	"math"
	"sync"
	"testing"

	"sheafworks/api"
	"sheafworks/word"
)

// do returns the value of two words at which the operation does not trap.
func do(t *testing.T, op, a, b int) int {
	t.Helper()
	n, err := word.Do(op, a, b)
	if err != api.OK {
		t.Fatalf("Do(%d, %d, %d): error %d", op, a, b, err)
	}
	return n
}

// power returns a word joined with itself.
func power(t *testing.T, op, a, n int) int {
	t.Helper()
	got, err := word.Power(op, a, n)
	if err != api.OK {
		t.Fatalf("Power(%d, %d, %d): error %d", op, a, n, err)
	}
	return got
}

// P1.9
func TestDivision(t *testing.T) {
	words := samples(200)
	for _, a := range words {
		for _, b := range words {
			if b == 0 {
				continue
			}
			q, r := do(t, api.OpDiv, a, b), do(t, api.OpMod, a, b)
			if back := do(t, api.OpAdd, do(t, api.OpMul, b, q), r); back != a {
				t.Fatalf("%d / %d is %d, the remainder %d: they give %d", a, b, q, r, back)
			}
			if b > 0 && (r < 0 || r >= b) || b < 0 && (r > 0 || r <= b) {
				t.Fatalf("%d %% %d is %d", a, b, r)
			}
			if exact := b*q+r == a; exact == (a == low && b == -1) {
				t.Fatalf("%d / %d is %d, exact: %v", a, b, q, exact)
			}
		}
	}
	if q := do(t, api.OpDiv, low, -1); q != low {
		t.Errorf("the quotient of the least word and -1 is %d", q)
	}
}

// joined returns the value of two words, and whether there is one.
func joined(op, a, b int) (int, bool) {
	n, err := word.Do(op, a, b)
	return n, err == api.OK
}

// found returns which laws hold of an operation for all of some words.
func found(op int, words []int) api.WordLaws {
	laws := api.WordLaws{Assoc: true, Commutes: true, Idem: true}
	for _, a := range words {
		self, ok := joined(op, a, a)
		laws.Idem = laws.Idem && ok && self == a
		for _, b := range words {
			ab, ok := joined(op, a, b)
			ba, turned := joined(op, b, a)
			laws.Commutes = laws.Commutes && ok == turned && ab == ba
			for _, c := range words {
				bc, right := joined(op, b, c)
				first, left := joined(op, ab, c)
				second, last := joined(op, a, bc)
				laws.Assoc = laws.Assoc && (ok && left) == (right && last) && first == second
			}
		}
	}
	return laws
}

// P1.10
func TestLawsHold(t *testing.T) {
	words := samples(20)
	for op := range api.WordOps {
		told, err := word.Laws(op)
		if got := found(op, words); got != told || err != api.OK {
			t.Errorf("of the operation %d hold %v, told are %v, %d", op, got, told, err)
		}
		neutral, err := word.Neutral(op)
		if told.Assoc != (err == api.OK) {
			t.Errorf("the neutral word of the operation %d: error %d", op, err)
		}
		if err != api.OK {
			continue
		}
		for _, a := range samples(300) {
			if do(t, op, neutral, a) != a || do(t, op, a, neutral) != a {
				t.Errorf("the word %d does not leave %d unchanged by the operation %d", neutral, a, op)
			}
		}
	}
}

// P1.11
func TestPowersAdd(t *testing.T) {
	times := []int{0, 1, 2, 3, 4, 5, 31, 32, 33, 1000, 1<<31 - 1, 1 << 31, 1<<32 + 1, 1<<61 + 7, 1<<62 - 1}
	for op := range api.WordOps {
		if _, err := word.Neutral(op); err != api.OK {
			continue
		}
		for _, a := range samples(30) {
			for _, m := range times {
				for _, n := range times {
					apart := do(t, op, power(t, op, a, m), power(t, op, a, n))
					if got := power(t, op, a, m+n); got != apart {
						t.Fatalf("Power(%d, %d, %d + %d) is %d, in parts %d", op, a, m, n, got, apart)
					}
				}
			}
		}
	}
}

// P1.12
func TestOrder(t *testing.T) {
	words := samples(200)
	for _, a := range words {
		keyA, errA := word.Key(a)
		for _, b := range words {
			keyB, errB := word.Key(b)
			if errA != api.OK || errB != api.OK || (keyA < keyB) != (a < b) || (keyA == keyB) != (a == b) {
				t.Fatalf("the keys of %d and %d are %d and %d", a, b, keyA, keyB)
			}
			least, most := b, a
			if keyA < keyB {
				least, most = a, b
			}
			if do(t, api.OpLess, a, b) != truth(keyA < keyB) || do(t, api.OpMin, a, b) != least || do(t, api.OpMax, a, b) != most {
				t.Fatalf("the order of %d and %d", a, b)
			}
		}
	}
}

// P1.12
func TestThereAndBack(t *testing.T) {
	for _, n := range samples(3000) {
		key, err := word.Key(n)
		if key < 0 || key > math.MaxUint32 || err != api.OK {
			t.Errorf("the key of %d is %d, %d", n, key, err)
		}
		if back, err := word.OfKey(key); back != n || err != api.OK {
			t.Errorf("the word of the key %d is %d, %d; want %d", key, back, err, n)
		}
		text, err := word.Text(n)
		if back, failed := word.Parse(text); back != n || err != api.OK || failed != api.OK {
			t.Errorf("the word of the text %q is %d, %d, %d; want %d", text, back, err, failed, n)
		}
		// Any number from 0 to 2^32 - 1 may be a key.
		number := int(uint32(n))
		back, err := word.OfKey(number)
		if key, failed := word.Key(back); key != number || err != api.OK || failed != api.OK {
			t.Errorf("the key of the word of the key %d is %d, %d, %d", number, key, err, failed)
		}
	}
}

// answers calls every function with all of some arguments.
func answers(numbers []int, texts []string) []any {
	var all []any
	note := func(values ...any) { all = append(all, values...) }
	for _, a := range numbers {
		note(word.Is(a))
		laws, err := word.Laws(a)
		note(laws, err)
		neutral, err := word.Neutral(a)
		note(neutral, err)
		inverse, err := word.Inverse(a)
		note(inverse, err)
		key, err := word.Key(a)
		note(key, err)
		ofKey, err := word.OfKey(a)
		note(ofKey, err)
		text, err := word.Text(a)
		note(text, err)
		name, err := word.Name(a)
		note(name, err)
		for _, b := range numbers {
			for _, c := range numbers {
				value, err := word.Do(a, b, c)
				note(value, err)
				power, err := word.Power(a, b, c)
				note(power, err)
			}
		}
	}
	for _, s := range texts {
		n, err := word.Parse(s)
		note(n, err)
		op, err := word.Op(s)
		note(op, err)
	}
	return all
}

// P1 and P13: no call panics, and what is asked again, also at the same time, is answered the same.
func TestAnyArgumentsAgain(t *testing.T) {
	numbers := append([]int{low, -2, 0, 1, 3, 4, 5, 6, 8, 10, 11, high}, noWords...)
	numbers = append(numbers, noOps...)
	texts := []string{"", "-", "-1", "12", "min", "^", "\xff", "99999999999"}
	first := answers(numbers, texts)
	var rounds [4][]any
	var wait sync.WaitGroup
	for i := range rounds {
		wait.Go(func() { rounds[i] = answers(numbers, texts) })
	}
	wait.Wait()
	for _, again := range rounds {
		if len(again) != len(first) {
			t.Fatalf("%d answers, then %d", len(first), len(again))
		}
		for i, x := range again {
			if x != first[i] {
				t.Fatalf("the answer %d is %v, then %v", i, first[i], x)
			}
		}
	}
}
