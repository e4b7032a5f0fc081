// Package spans contains what properties and combining classes have in common: spans that give code points values.
package spans

import (
	"cmp"
	"slices"
	"sort"

	"unicodetext/api"
	"unicodetext/codepoint"
)

// Inside reports whether a span lies within the code points and is not empty.
func Inside(s api.Span) bool {
	return codepoint.Valid(s.Lo) && codepoint.Valid(s.Hi) && s.Lo <= s.Hi
}

// Ascending reports whether spans, none of which is empty, are ascending and disjoint, and those that touch have different values.
func Ascending(l []api.Span) bool {
	for i := 1; i < len(l); i++ {
		before, s := l[i-1], l[i]
		if s.Lo <= before.Hi || s.Lo == before.Hi+1 && s.Value == before.Value {
			return false
		}
	}
	return true
}

// Value returns the value of that of the ascending spans that contains c; 0 if there is none.
func Value(l []api.Span, c int) int {
	i := sort.Search(len(l), func(i int) bool { return c <= l[i].Hi })
	if i == len(l) || c < l[i].Lo {
		return 0
	}
	return l[i].Value
}

// Overlap returns the index of the first of the spans that overlaps one before it, and whether there is one. The spans are in any order, and none is empty.
func Overlap(l []api.Span) (int, bool) {
	// An overlap among the first spans remains one if more follow, so it is found by halving.
	i := sort.Search(len(l), func(i int) bool { return overlapping(l[:i+1]) })
	if i == len(l) {
		return 0, false
	}
	return i, true
}

// overlapping reports whether two of the spans overlap.
func overlapping(l []api.Span) bool {
	ordered := sorted(l)
	for i := 1; i < len(ordered); i++ {
		if ordered[i].Lo <= ordered[i-1].Hi {
			return true
		}
	}
	return false
}

// sorted returns the spans in ascending order.
func sorted(l []api.Span) []api.Span {
	return slices.SortedFunc(slices.Values(l), func(a, b api.Span) int { return cmp.Compare(a.Lo, b.Lo) })
}

// Joined returns spans in ascending order that give the same values as disjoint ones in any order: without those of the value 0, and with those as one that touch and have the same value.
func Joined(l []api.Span) []api.Span {
	var joined []api.Span
	for _, s := range sorted(l) {
		last := len(joined) - 1
		switch {
		case s.Value == 0:
		case last >= 0 && joined[last].Hi+1 == s.Lo && joined[last].Value == s.Value:
			joined[last].Hi = s.Hi
		default:
			joined = append(joined, s)
		}
	}
	return joined
}
