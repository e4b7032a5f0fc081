package spans_test

import (
	"math"
	"math/rand"
	"slices"
	"testing"

	"unicodetext/api"
	"unicodetext/spans"
)

// list returns spans given by their ends and values.
func list(numbers ...int) []api.Span {
	var l []api.Span
	for i := 0; i < len(numbers); i += 3 {
		l = append(l, api.Span{Lo: numbers[i], Hi: numbers[i+1], Value: numbers[i+2]})
	}
	return l
}

func TestInside(t *testing.T) {
	for _, s := range list(0, 0, 0, 0, api.MaxCode, 1, 5, 9, -1, api.MaxCode, api.MaxCode, 3) {
		if !spans.Inside(s) {
			t.Error(s)
		}
	}
	for _, s := range list(1, 0, 1, -1, 0, 1, 0, api.MaxCode+1, 1, math.MinInt, math.MaxInt, 1, math.MaxInt, math.MinInt, 1) {
		if spans.Inside(s) {
			t.Error(s)
		}
	}
}

func TestAscending(t *testing.T) {
	for _, l := range [][]api.Span{nil, list(5, 9, 1), list(5, 9, 1, 10, 10, 2, 11, 12, 1), list(5, 9, 1, 11, 12, 1)} {
		if !spans.Ascending(l) {
			t.Error(l)
		}
	}
	for _, l := range [][]api.Span{list(5, 9, 1, 10, 10, 1), list(5, 9, 1, 9, 10, 2), list(5, 9, 1, 3, 4, 2), list(1, 1, 1, 5, 9, 1, 5, 9, 1)} {
		if spans.Ascending(l) {
			t.Error(l)
		}
	}
}

func TestValue(t *testing.T) {
	l := list(5, 9, 1, 10, 10, 2, 12, 20, -3)
	for c, want := range map[int]int{math.MinInt: 0, 4: 0, 5: 1, 7: 1, 9: 1, 10: 2, 11: 0, 12: -3, 20: -3, 21: 0, math.MaxInt: 0} {
		if got := spans.Value(l, c); got != want || spans.Value(nil, c) != 0 {
			t.Error(c, got)
		}
	}
	// Other lists have some value, or none.
	spans.Value(list(9, 5, 1, math.MaxInt, math.MinInt, 7, 3, 3, 3), 3)
}

func TestOverlap(t *testing.T) {
	for _, c := range []struct {
		l    []api.Span
		want int // -1 if there is no overlap
	}{
		{nil, -1},
		{list(5, 9, 1), -1},
		{list(5, 9, 1, 10, 12, 1, 0, 4, 1), -1},
		{list(5, 9, 1, 9, 12, 2), 1},
		{list(5, 9, 1, 0, 100, 2), 1},
		{list(0, 100, 1, 200, 300, 1, 7, 7, 0, 8, 8, 0), 2},
		{list(20, 30, 1, 10, 15, 1, 0, 9, 1, 31, 40, 1, 15, 15, 1), 4},
	} {
		i, ok := spans.Overlap(c.l)
		if ok != (c.want >= 0) || i != max(c.want, 0) {
			t.Error(c, i, ok)
		}
	}
}

func TestRandomOverlapsAndJoins(t *testing.T) {
	r := rand.New(rand.NewSource(1))
	for range 2000 {
		var l []api.Span
		values := map[int]int{}
		overlap := -1
		for i := range r.Intn(12) {
			lo := r.Intn(100)
			s := api.Span{Lo: lo, Hi: lo + r.Intn(4), Value: r.Intn(3)}
			l = append(l, s)
			for c := s.Lo; c <= s.Hi; c++ {
				if _, twice := values[c]; twice && overlap < 0 {
					overlap = i
				}
				values[c] = s.Value
			}
		}
		given := slices.Clone(l)
		i, ok := spans.Overlap(l)
		if ok != (overlap >= 0) || ok && i != overlap || !slices.Equal(l, given) {
			t.Fatal(l, i, ok, overlap)
		}
		if ok {
			continue
		}
		joined := spans.Joined(l)
		if !spans.Ascending(joined) || !slices.Equal(l, given) {
			t.Fatal(l, joined)
		}
		for c := range 110 {
			if spans.Value(joined, c) != values[c] {
				t.Fatal(l, joined, c)
			}
		}
		if slices.ContainsFunc(joined, func(s api.Span) bool { return s.Value == 0 }) {
			t.Fatal(joined)
		}
	}
}
