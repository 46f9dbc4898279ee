// Package word is layer 1: see shared/doc/01-word.md.
package word

import "sheafworks/api"

// Is reports whether a number is a word.
func Is(n int) bool { return n >= api.WordLow && n <= api.WordHigh }

// wrap makes a number a word.
func wrap(n int) int { return int(int32(n)) }

// Do returns what an operation makes of two words.
func Do(op, a, b int) (int, api.Errno) {
	if !isOp(op) {
		return 0, api.ErrArg
	}
	if !Is(a) || !Is(b) {
		return 0, api.ErrRange
	}
	if traps(op, b) {
		return 0, api.ErrTrap
	}
	return value(op, a, b), api.OK
}

// Laws returns which laws hold of an operation.
func Laws(op int) (api.WordLaws, api.Errno) {
	if !isOp(op) {
		return api.WordLaws{}, api.ErrArg
	}
	return facts[op].laws, api.OK
}

// Neutral returns the word that changes no other one.
func Neutral(op int) (int, api.Errno) {
	laws, err := Laws(op)
	if err != api.OK {
		return 0, err
	}
	if !laws.Assoc {
		return 0, api.ErrNone
	}
	return facts[op].neutral, api.OK
}

// Power joins a word with itself so many times.
func Power(op, a, n int) (int, api.Errno) {
	neutral, err := Neutral(op)
	if err != api.OK {
		return 0, err
	}
	if !Is(a) || n < 0 {
		return 0, api.ErrRange
	}
	// With all three laws, joining the word again changes nothing.
	if facts[op].laws == (api.WordLaws{Assoc: true, Commutes: true, Idem: true}) {
		n = min(n, 1)
	}
	// The operation is associative, so two equal halves need only one of them.
	var join func(n int) int
	join = func(n int) int {
		if n == 0 {
			return neutral
		}
		half := join(n / 2)
		twice := value(op, half, half)
		if n%2 == 0 {
			return twice
		}
		return value(op, twice, a)
	}
	return join(n), api.OK
}

// Inverse returns the word whose product with another one is 1.
func Inverse(a int) (int, api.Errno) {
	if !Is(a) {
		return 0, api.ErrRange
	}
	if a%2 == 0 {
		return 0, api.ErrNone
	}
	// An odd word is its own inverse in the lowest 3 bits, and each round
	// doubles how many bits are right: 6, 12, 24, 48.
	inverse := a
	for range 4 {
		inverse = wrap(inverse * wrap(2-a*inverse))
	}
	return inverse, api.OK
}

// Key returns the key of a word.
func Key(n int) (int, api.Errno) {
	if !Is(n) {
		return 0, api.ErrRange
	}
	return n - api.WordLow, api.OK
}

// OfKey returns the word of a key.
func OfKey(key int) (int, api.Errno) {
	if key < 0 || key > api.WordHigh-api.WordLow {
		return 0, api.ErrRange
	}
	return key + api.WordLow, api.OK
}
