// Package span is layer 1: it reckons with spans of places.
package span

import (
	"cmp"
	"slices"
	"sort"

	"campanile/api"
)

// Is: is it a span?
func Is(s api.Span) bool {
	return s.From >= 0 && s.From < s.To
}

// In: is it a span of so many places?
func In(s api.Span, n int) bool {
	return Is(s) && s.To <= n
}

// Holds: is a place in a span?
func Holds(s api.Span, at int) bool {
	return Is(s) && s.From <= at && at < s.To
}

// Meet is what is in both.
func Meet(a, b api.Span) (api.Span, bool) {
	// Of what is no span the places between could still look like one.
	if !Is(a) || !Is(b) {
		return api.Span{}, false
	}
	both := api.Span{From: max(a.From, b.From), To: min(a.To, b.To)}
	if !Is(both) {
		return api.Span{}, false
	}
	return both, true
}

// First is the first two that meet.
func First(l ...api.Span) (int, int) {
	// Whether some of the first ones meet can only change once, from no to
	// yes, so the least k is found by halving.
	k := sort.Search(len(l), func(k int) bool { return someMeet(l[:k+1]) })
	if k == len(l) {
		return -1, -1
	}
	i := slices.IndexFunc(l[:k], func(s api.Span) bool {
		_, ok := Meet(s, l[k])
		return ok
	})
	return i, k
}

// Apart: are all spans that do not meet?
func Apart(l ...api.Span) bool {
	wrong := slices.ContainsFunc(l, func(s api.Span) bool { return !Is(s) })
	return !wrong && !someMeet(l)
}

// Sorted is all, by where they begin.
func Sorted(l ...api.Span) []api.Span {
	out := append([]api.Span(nil), l...)
	slices.SortStableFunc(out, func(a, b api.Span) int {
		if a.From != b.From {
			return cmp.Compare(a.From, b.From)
		}
		return cmp.Compare(a.To, b.To)
	})
	return out
}

// Merge is the same places in as few spans as can be.
func Merge(l ...api.Span) []api.Span {
	var out []api.Span
	for _, s := range Sorted(l...) {
		last := len(out) - 1
		switch {
		case !Is(s):
		case last >= 0 && s.From <= out[last].To:
			out[last].To = max(out[last].To, s.To)
		default:
			out = append(out, s)
		}
	}
	return out
}

// Gaps is what is in none.
func Gaps(n int, l ...api.Span) []api.Span {
	var out []api.Span
	at := 0
	for _, s := range Merge(l...) {
		if gap := (api.Span{From: at, To: min(s.From, n)}); Is(gap) {
			out = append(out, gap)
		}
		at = s.To
	}
	if gap := (api.Span{From: at, To: n}); Is(gap) {
		out = append(out, gap)
	}
	return out
}

// Total is how many places are in one at least.
func Total(l ...api.Span) int {
	total := 0
	for _, s := range Merge(l...) {
		total += s.To - s.From
	}
	return total
}

// someMeet tells whether two meet. Once they are sorted, a span that meets any
// ahead of it meets the one just ahead, as long as those did not meet.
func someMeet(l []api.Span) bool {
	end := 0
	for _, s := range Sorted(l...) {
		if !Is(s) {
			continue
		}
		if s.From < end {
			return true
		}
		end = s.To
	}
	return false
}
