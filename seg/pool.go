package seg

import (
	"cmp"
	"iter"
	"slices"

	"sheafworks/api"
)

// Shared checks segments of a pool, and returns how many elements they have together.
func Shared(starts, lens []int, size int) (int, api.Errno) {
	if err := fit(starts, lens); err != api.OK {
		return 0, err
	}
	if !isSize(size) || !inPool(starts, lens, size) {
		return 0, api.ErrRange
	}
	return sum(lens)
}

// inPool reports whether all segments lie in a pool of this size.
func inPool(starts, lens []int, size int) bool {
	for span := range parts(starts, lens) {
		// Start and Len are not added here: their sum could overflow.
		if span.Start < 0 || span.Len < 0 || span.Start > size-span.Len {
			return false
		}
	}
	return true
}

// Depth returns how many segments have a place in common.
func Depth(starts, lens []int, size int) (int, api.Errno) {
	if _, err := Shared(starts, lens, size); err != api.OK {
		return 0, err
	}
	// How many more segments begin at a place than end ahead of it.
	more := map[int]int{}
	for span := range parts(starts, lens) {
		more[span.Start]++
		more[end(span)]--
	}
	deep, most := 0, 0
	for place := range size {
		deep += more[place]
		most = max(most, deep)
	}
	return most, api.OK
}

// Touched returns which places are in some segment.
func Touched(starts, lens []int, size int) ([]api.SegSpan, api.Errno) {
	if _, err := Shared(starts, lens, size); err != api.OK {
		return nil, err
	}
	var joined []api.SegSpan
	ahead := api.SegSpan{}
	for _, span := range sorted(starts, lens) {
		if span == ahead {
			continue // the same segment again touches nothing more
		}
		ahead = span
		last := len(joined) - 1
		if last < 0 || span.Start > end(joined[last]) {
			joined = append(joined, span)
			continue
		}
		joined[last].Len = max(end(joined[last]), end(span)) - joined[last].Start
	}
	return joined[:len(joined):len(joined)], api.OK
}

// sorted returns the segments that are not empty, by where they begin, the same ones side by side.
func sorted(starts, lens []int) []api.SegSpan {
	var spans []api.SegSpan
	for span := range parts(starts, lens) {
		if span.Len > 0 {
			spans = append(spans, span)
		}
	}
	slices.SortFunc(spans, func(a, b api.SegSpan) int {
		return cmp.Or(cmp.Compare(a.Start, b.Start), cmp.Compare(a.Len, b.Len))
	})
	return spans
}

// Places returns the places of all elements.
func Places(starts, lens []int, size int) ([]int, api.Errno) {
	if _, err := Shared(starts, lens, size); err != api.OK {
		return nil, err
	}
	return placesOf(parts(starts, lens)), api.OK
}

// Compact returns where segments begin in a pool that has only what they touch, and which places that has.
func Compact(starts, lens []int, size int) (begin, places []int, e api.Errno) {
	touched, err := Touched(starts, lens, size)
	if err != api.OK {
		return nil, nil, err
	}
	places = placesOf(slices.Values(touched))
	begin = make([]int, len(starts))
	for i, start := range starts {
		// Where a place stands among those in order, or would, is how many are ahead of it.
		begin[i], _ = slices.BinarySearch(places, start)
	}
	return begin, places, api.OK
}

// placesOf returns the places of all these segments, one segment behind the other.
func placesOf(spans iter.Seq[api.SegSpan]) []int {
	var places []int
	for span := range spans {
		for i := range span.Len {
			places = append(places, span.Start+i)
		}
	}
	return places[:len(places):len(places)]
}

// parts produces shared segments of a pool.
func parts(starts, lens []int) iter.Seq[api.SegSpan] {
	return func(yield func(api.SegSpan) bool) {
		for i, start := range starts {
			if !yield(api.SegSpan{Start: start, Len: lens[i]}) {
				return
			}
		}
	}
}
