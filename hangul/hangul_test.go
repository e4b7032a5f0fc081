package hangul_test

import (
	"math"
	"math/rand"
	"regexp"
	"slices"
	"testing"

	"unicodetext/api"
	"unicodetext/hangul"
)

// outside holds numbers that are near the consonants, vowels and syllables, or no code points.
var outside = []int{
	0, 0x41, 0x10FF, 0x1113, 0x115F, 0x1160, 0x1176, 0x11A7, 0x11C3, 0xABFF, 0xD7A4, 0xD7B0, 0x10FFFF,
	-1, 0x110000, 0x11100, 0x1AC00, 1<<32 + 0xAC00, 1<<32 + 0x1100, -0xAC00, math.MinInt, math.MaxInt,
}

// P19.1

func TestKind(t *testing.T) {
	for _, c := range []struct{ c, want int }{
		{0x1100, 1}, {0x1112, 1},
		{0x1161, 2}, {0x1175, 2},
		{0x11A8, 3}, {0x11C2, 3},
		{0xAC00, 4}, {0xAC1C, 4}, {0xD788, 4},
		{0xAC01, 5}, {0xAC1B, 5}, {0xAC1D, 5}, {0xD787, 5}, {0xD7A3, 5},
	} {
		if got := hangul.Kind(c.c); got != c.want {
			t.Errorf("Kind(%X) = %d", c.c, got)
		}
	}
	for _, c := range outside {
		if got := hangul.Kind(c); got != 0 {
			t.Errorf("Kind(%X) = %d", c, got)
		}
	}
}

func TestCountsOfKinds(t *testing.T) {
	var counts [6]int
	for c := -0x20000; c < 0x120000; c++ {
		counts[hangul.Kind(c)]++
	}
	if got := [5]int(counts[1:]); got != [5]int{19, 21, 27, 19 * 21, 19 * 21 * 27} {
		t.Error(got)
	}
}

func TestDecomposeAndComposeOfAllSyllables(t *testing.T) {
	c := 0xAC00
	for l := range 19 {
		for v := range 21 {
			open := c
			first, second := 0x1100+l, 0x1161+v
			if got := hangul.Decompose(open); !slices.Equal(got, []int{first, second}) {
				t.Fatalf("Decompose(%X) = %X", open, got)
			}
			if got, ok := hangul.Compose(first, second); got != open || !ok {
				t.Fatalf("Compose(%X, %X) = %X, %t", first, second, got, ok)
			}
			c++
			for third := 0x11A8; third <= 0x11C2; third++ {
				if got := hangul.Decompose(c); !slices.Equal(got, []int{first, second, third}) {
					t.Fatalf("Decompose(%X) = %X", c, got)
				}
				if got, ok := hangul.Compose(open, third); got != c || !ok {
					t.Fatalf("Compose(%X, %X) = %X, %t", open, third, got, ok)
				}
				c++
			}
		}
	}
	if c != 0xD7A4 {
		t.Errorf("the last syllable is in front of %X", c)
	}
}

func TestDecomposeOfOtherNumbers(t *testing.T) {
	for _, c := range slices.Concat(outside, []int{0x1100, 0x1112, 0x1161, 0x1175, 0x11A8, 0x11C2}) {
		if got := hangul.Decompose(c); !slices.Equal(got, []int{c}) {
			t.Errorf("Decompose(%X) = %X", c, got)
		}
	}
}

// kinds holds numbers of all kinds, and their neighbours.
var kinds = slices.Concat(outside, []int{0x1100, 0x1112, 0x1161, 0x1175, 0x11A8, 0x11C2, 0xAC00, 0xAC01, 0xAC1B, 0xAC1C, 0xD788, 0xD7A3})

func TestComposeOfOtherPairs(t *testing.T) {
	composed := 0
	for _, a := range kinds {
		for _, b := range kinds {
			got, ok := hangul.Compose(a, b)
			pair := [2]int{hangul.Kind(a), hangul.Kind(b)}
			if want := pair == [2]int{1, 2} || pair == [2]int{4, 3}; ok != want || !ok && got != 0 {
				t.Errorf("Compose(%X, %X) = %X, %t", a, b, got, ok)
			}
			if ok {
				composed++
			}
		}
	}
	if composed != 2*2+3*2 {
		t.Error(composed, "pairs are composed")
	}
}

// P19.2

func TestSplit(t *testing.T) {
	const l, v, tr, open, closed = 0x1100, 0x1161, 0x11A8, 0xAC00, 0xAC01
	for _, c := range []struct {
		text []int
		want []api.Range
	}{
		{nil, nil},
		{[]int{0x41, -1, 0x110000}, nil},
		{[]int{l}, nil},
		{[]int{v}, nil},
		{[]int{tr}, nil},
		{[]int{open}, []api.Range{{Lo: 0, Hi: 1}}},
		{[]int{closed}, []api.Range{{Lo: 0, Hi: 1}}},
		{[]int{l, v}, []api.Range{{Lo: 0, Hi: 2}}},
		{[]int{l, v, tr}, []api.Range{{Lo: 0, Hi: 3}}},
		{[]int{l, v, tr, tr}, []api.Range{{Lo: 0, Hi: 3}}},
		{[]int{l, l, v, v}, []api.Range{{Lo: 1, Hi: 3}}},
		{[]int{l, tr}, nil},
		{[]int{v, tr}, nil},
		{[]int{v, l}, nil},
		{[]int{open, tr}, []api.Range{{Lo: 0, Hi: 2}}},
		{[]int{open, tr, tr}, []api.Range{{Lo: 0, Hi: 2}}},
		{[]int{closed, tr}, []api.Range{{Lo: 0, Hi: 1}}},
		{[]int{open, v}, []api.Range{{Lo: 0, Hi: 1}}},
		{[]int{l, open}, []api.Range{{Lo: 1, Hi: 2}}},
		{[]int{l, v, open, tr, closed}, []api.Range{{Lo: 0, Hi: 2}, {Lo: 2, Hi: 4}, {Lo: 4, Hi: 5}}},
		{[]int{0x41, l, v, 0x301, l, v, tr, 0x42}, []api.Range{{Lo: 1, Hi: 3}, {Lo: 4, Hi: 7}}},
		{[]int{l, 0x41, v}, nil},
		{[]int{open, open, tr}, []api.Range{{Lo: 0, Hi: 1}, {Lo: 1, Hi: 3}}},
	} {
		if got := hangul.Split(c.text); !slices.Equal(got, c.want) {
			t.Errorf("Split(%X) = %v", c.text, got)
		}
	}
}

func TestSplitAgreesWithTheForms(t *testing.T) {
	forms := regexp.MustCompile("LVT|LV|OT|O|C")
	r := rand.New(rand.NewSource(1))
	for range 5000 {
		text := make([]int, r.Intn(12))
		letters := make([]byte, len(text))
		for i := range text {
			text[i] = []int{0x41 - r.Intn(100), 0x1100 + r.Intn(19), 0x1161 + r.Intn(21), 0x11A8 + r.Intn(27), 0xAC00 + 28*r.Intn(399), 0xAC01 + 28*r.Intn(399) + r.Intn(27)}[r.Intn(6)]
			letters[i] = "xLVTOC"[hangul.Kind(text[i])]
		}
		var want []api.Range
		for _, at := range forms.FindAllIndex(letters, -1) {
			want = append(want, api.Range{Lo: at[0], Hi: at[1]})
		}
		before := slices.Clone(text)
		if got := hangul.Split(text); !slices.Equal(got, want) || !slices.Equal(text, before) {
			t.Fatalf("Split(%X) = %v, not %v", text, got, want)
		}
	}
}

// P19.3

func TestPartsAndSyllablesAreInverse(t *testing.T) {
	for c := 0xAC00; c <= 0xD7A3; c++ {
		parts := hangul.Decompose(c)
		got := parts[0]
		for _, part := range parts[1:] {
			var ok bool
			if got, ok = hangul.Compose(got, part); !ok {
				t.Fatalf("%X: %X", c, parts)
			}
		}
		if got != c || len(parts) < 2 {
			t.Fatalf("%X: %X", c, got)
		}
	}
	for a := 0x1100; a < 0xD7A4; a++ {
		for _, b := range []int{0x1161, 0x1175, 0x11A8, 0x11C2} {
			if c, ok := hangul.Compose(a, b); ok && !slices.Equal(hangul.Decompose(c), append(hangul.Decompose(a), b)) {
				t.Fatalf("%X %X: %X", a, b, c)
			}
		}
	}
}
