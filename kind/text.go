package kind

import (
	"slices"
	"strconv"
	"strings"

	"sheafworks/api"
)

// text returns a valid type as a text.
func text(t api.Type) string {
	k := kinds()[t.Kind]
	inner := strings.Join(slices.Collect(each(t.L, text)), k.middle)
	if t.Kind == api.TypeVar {
		inner = strconv.Itoa(t.N)
	}
	return k.open + inner + k.shut
}

// parsed returns the type of a text, and refuses what is no text of a valid type.
func parsed(s string) api.Type {
	if len(s) > api.KindText {
		panic(api.ErrLong)
	}
	r := &reader{s}
	t := r.read()
	if r.rest != "" {
		panic(api.ErrForm)
	}
	if !isValid(plain{t}) {
		panic(api.ErrFull)
	}
	return t
}

// reader reads a text, of which there is a rest; its methods refuse with ErrForm what does not come next.
type reader struct{ rest string }

// read reads a type.
func (r *reader) read() api.Type {
	known := kinds()
	t := api.Type{Kind: r.next(kind.opening)}
	if t.Kind == api.TypeVar {
		t.N = r.number()
	}
	for i := range known[t.Kind].parts {
		if i > 0 {
			t.Kind = r.next(kind.joint) // pairs, sums and functions begin alike
		}
		part := r.read()
		t.L = append(t.L, part)
	}
	if !r.take(known[t.Kind].shut) {
		panic(api.ErrForm)
	}
	return t
}

func (k kind) opening() string { return k.open }

func (k kind) joint() string { return k.middle }

// next reads a mark that some kind has, and returns the first kind that has it.
func (r *reader) next(mark func(kind) string) int {
	for i, k := range kinds() {
		if m := mark(k); m != "" && r.take(m) {
			return i
		}
	}
	panic(api.ErrForm)
}

// take reads a mark, if it comes next.
func (r *reader) take(mark string) bool {
	rest, ok := strings.CutPrefix(r.rest, mark)
	r.rest = rest
	return ok
}

// number reads the number of a variable.
func (r *reader) number() int {
	behind := strings.TrimLeft(r.rest, "0123456789")
	digits := strings.TrimSuffix(r.rest, behind)
	n, err := strconv.Atoi(digits)
	if err != nil || strconv.Itoa(n) != digits || !isVariable(n) {
		panic(api.ErrForm)
	}
	r.rest = behind
	return n
}
