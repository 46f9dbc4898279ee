package scan

import (
	"testing"

	"sheafworks/api"
)

// P5.11. How often words are joined is not seen from outside, so this test is in the package itself.
func TestJoinsGoingDown(t *testing.T) {
	zeros := operation{0, func(a, b int) int { return 0 }}
	for many := range 70 {
		levels := zeros.treeOf(make([]int, many)).lists()
		joins := 0
		// A word is how deep it has been joined.
		o := operation{0, func(a, b int) int {
			joins++
			return max(a, b) + 1
		}}
		deep := 0
		for _, n := range o.down(levels) {
			deep = max(deep, n)
		}
		if words := len(levels[0]); joins > words || deep > len(levels) {
			t.Errorf("down %d levels of %d words: joined %d times, %d deep", len(levels), words, joins, deep)
		}
	}
}

// P5.5: the array has room for the levels of the longest list, and for no more.
func TestDeepest(t *testing.T) {
	if 1<<(deepest-1) != api.VecMost {
		t.Errorf("%d levels", deepest)
	}
}
