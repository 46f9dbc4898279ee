package nest

import (
	"slices"

	"sheafworks/api"
)

// size returns how many nodes values have together, and ErrLong if these are too many, or if one of the values is too long.
func size(values ...api.Value) (int, api.Errno) {
	many := 0
	for _, v := range values {
		for _, node := range nodes(v, valueParts) {
			many++
			tooWide := node.Kind == api.ValueSeq && len(node.L) > api.SeqMost
			if many > api.ValueMost || tooWide {
				return 0, api.ErrLong
			}
		}
	}
	return many, api.OK
}

func valueParts(v api.Value) []api.Value { return v.L }

// checkValues returns the error of size, and ErrArg unless each value is one of a data type.
func checkValues(t api.Type, values ...api.Value) api.Errno {
	if _, err := size(values...); err != api.OK {
		return err
	}
	for _, v := range values {
		if !isOf(v, t) {
			return api.ErrArg
		}
	}
	return api.OK
}

// isNode reports whether a node, apart from its parts, may be one of a valid value.
func isNode(v api.Value) bool {
	switch v.Kind {
	case api.ValueUnit:
		return len(v.L) == 0 && v.N == 0
	case api.ValueInt:
		return len(v.L) == 0 && isWord(v.N)
	case api.ValuePair:
		return len(v.L) == 2 && v.N == 0
	case api.ValueSum:
		return len(v.L) == 1 && isTag(v.N)
	case api.ValueSeq:
		return v.N == 0
	}
	return false
}

func isWord(n int) bool { return n >= api.WordLow && n <= api.WordHigh }

func isTag(n int) bool { return n == 0 || n == 1 }

// isOf reports whether a value is one of a data type.
func isOf(v api.Value, t api.Type) bool {
	if v.Kind != kinds[t.Kind].value || !isNode(v) {
		return false
	}
	for i, part := range v.L {
		if !isOf(part, t.L[side(v, i)]) {
			return false
		}
	}
	return true
}

// side returns of which part of its type the part i of a value is.
func side(v api.Value, i int) int {
	switch v.Kind {
	case api.ValuePair:
		return i
	case api.ValueSum:
		return v.N
	}
	return 0
}

// isSame reports whether two values are the same.
func isSame(a, b api.Value) bool {
	return a.Kind == b.Kind && a.N == b.N && slices.EqualFunc(a.L, b.L, isSame)
}
