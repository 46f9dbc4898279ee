package word

import (
	"strconv"
	"strings"

	"sheafworks/api"
)

// Text returns the text of a word.
func Text(n int) (string, api.Errno) {
	if !Is(n) {
		return "", api.ErrRange
	}
	return strconv.Itoa(n), api.OK
}

// Parse returns the word of a text.
func Parse(s string) (int, api.Errno) {
	digits, below := strings.CutPrefix(s, "-")
	n, ok := magnitude(digits)
	if !ok || below && n == 0 {
		return 0, api.ErrForm
	}
	if below {
		n = -n
	}
	if !Is(n) {
		return 0, api.ErrForm
	}
	return n, api.OK
}

// magnitude returns the number whose digits are given, and whether they are digits of one that some word may have without its sign.
func magnitude(digits string) (int, bool) {
	n := 0
	for i, digit := range digits {
		zeroAhead := i > 0 && n == 0
		if digit < '0' || digit > '9' || zeroAhead {
			return 0, false
		}
		n = n*10 + int(digit-'0')
		if n > -api.WordLow {
			return 0, false
		}
	}
	return n, digits != ""
}
