package ordering_test

import (
	"math"
	"math/rand"
	"slices"
	"testing"

	"unicodetext/api"
	"unicodetext/hangul"
	"unicodetext/ordering"
)

const last = api.MaxCode

// list returns spans given by their ends and values.
func list(numbers ...int) []api.Span {
	var l []api.Span
	for i := 0; i < len(numbers); i += 3 {
		l = append(l, api.Span{Lo: numbers[i], Hi: numbers[i+1], Value: numbers[i+2]})
	}
	return l
}

// usual are classes as they are in examples.
var usual = list(0x301, 0x302, 230, 0x323, 0x323, 220, 0x345, 0x345, 240)

// invalid returns classes with errors; where several are wrong, the error is the one that is named first.
func invalid() map[api.Errno][][]api.Span {
	return map[api.Errno][][]api.Span{
		api.ErrRange: {
			list(-1, 5, 1), list(5, last+1, 1), list(6, 5, 1), list(5, 5, 0), list(5, 5, 255), list(5, 5, -1),
			list(math.MinInt, math.MaxInt, 1), list(math.MaxInt, math.MinInt, 1), list(5, 5, math.MaxInt),
			list(0xAC00, 0xAC00, 1, 5, 6, 1, 5, 6, 0), list(1, 2, 1, 4, 5, 2, 7, 6, 3),
		},
		api.ErrOrder: {
			list(5, 9, 1, 9, 12, 2), list(5, 9, 1, 10, 12, 1), list(5, 9, 1, 3, 3, 2), list(5, 9, 1, 5, 9, 1), list(5, 9, 1, 6, 7, 2),
			list(0x1100, 0x1100, 1, 0x1101, 0x1101, 1), list(0xAC00, 0xD7A3, 1, 5, 6, 2),
		},
		api.ErrData: {
			list(0x1100, 0x1100, 1), list(0x1112, 0x1112, 254), list(0x1161, 0x1175, 9), list(0x11A8, 0x11A8, 1), list(0x11C2, 0x11C2, 1),
			list(0xAC00, 0xAC00, 1), list(0xD7A3, 0xD7A3, 1), list(0xAC01, 0xAC01, 1), list(0, last, 1), list(0x10FF, 0x1100, 1),
			list(0x1112, 0x1160, 1), list(0x1113, 0x1161, 1), list(0x1176, 0x11A8, 1), list(0x11C3, 0xAC00, 1), list(0xD7A3, last, 1),
			list(0x301, 0x301, 230, 0x1161, 0x1161, 7),
		},
	}
}

var valid = [][]api.Span{
	nil, {}, usual,
	list(0, 0, 1, last, last, 254),
	list(5, 9, 1, 10, 12, 2, 13, 13, 1, 15, 15, 1),
	list(0x10FF, 0x10FF, 1, 0x1113, 0x1160, 2, 0x1176, 0x11A7, 3, 0x11C3, 0xABFF, 4, 0xD7A4, last, 5),
}

// P20.1

func TestCheck(t *testing.T) {
	for _, l := range valid {
		if errno := ordering.Check(l); errno != api.OK {
			t.Error(l, errno)
		}
	}
	for want, lists := range invalid() {
		for _, l := range lists {
			if errno := ordering.Check(l); errno != want {
				t.Error(l, errno, want)
			}
		}
	}
}

// A span of one code point is ErrData exactly if that is a Hangul part or syllable, and so is a span of two.
func TestCheckFindsAllHangul(t *testing.T) {
	for c := 0; c <= 0x11000; c++ {
		one, two := hangul.Kind(c) != 0, hangul.Kind(c) != 0 || hangul.Kind(c+1) != 0
		if got := ordering.Check(list(c, c, 1)) == api.ErrData; got != one {
			t.Fatal(c, got)
		}
		if got := ordering.Check(list(c, c+1, 1)) == api.ErrData; got != two {
			t.Fatal(c, got)
		}
	}
}

func TestClassAndStarter(t *testing.T) {
	for c, want := range map[int]int{0x300: 0, 0x301: 230, 0x302: 230, 0x303: 0, 0x323: 220, 0x61: 0, 0xAC00: 0, -1: 0, last: 0, last + 1: 0, math.MaxInt: 0, math.MinInt: 0} {
		if class, starter := ordering.Class(usual, c), ordering.Starter(usual, c); class != want || starter != (want == 0) {
			t.Error(c, class, starter)
		}
	}
	edges := list(0, 0, 1, last, last, 254)
	for c, want := range map[int]int{-1: 0, 0: 1, 1: 0, last - 1: 0, last: 254, last + 1: 0} {
		if class := ordering.Class(edges, c); class != want {
			t.Error(c, class)
		}
	}
}

func TestClassesThatAreNotValidCountAsNone(t *testing.T) {
	text := []int{5, 6, 9, 3, 10, 0x301, 0x1100, 0xAC00, 1, last, 0, -1, 0x323}
	for _, lists := range invalid() {
		for _, l := range lists {
			for _, c := range text {
				if ordering.Class(l, c) != 0 || !ordering.Starter(l, c) {
					t.Error(l, c)
				}
			}
			if got := ordering.Sort(l, text); !slices.Equal(got, text) {
				t.Error(l, got)
			}
			if !ordering.Sorted(l, text) || len(ordering.Runs(l, text)) != 0 {
				t.Error(l)
			}
		}
	}
}

// P20.2

func TestSortSortedRuns(t *testing.T) {
	for _, c := range []struct {
		text, sorted []int
		runs         []api.Range
	}{
		{nil, nil, nil},
		{[]int{0x61, 0x301, 0x323}, []int{0x61, 0x323, 0x301}, []api.Range{{Lo: 1, Hi: 3}}},
		{[]int{0x302, 0x301, 0x323}, []int{0x323, 0x302, 0x301}, []api.Range{{Lo: 0, Hi: 3}}},
		{[]int{0x301}, []int{0x301}, []api.Range{{Lo: 0, Hi: 1}}},
		{[]int{0x61, 0x62}, []int{0x61, 0x62}, nil},
		{[]int{0x345, 0x301, 0x61, 0x301, 0x345, -1, 0x301, 0x323, 0x302, 0x323, math.MaxInt}, []int{0x301, 0x345, 0x61, 0x301, 0x345, -1, 0x323, 0x323, 0x301, 0x302, math.MaxInt}, []api.Range{{Lo: 0, Hi: 2}, {Lo: 3, Hi: 5}, {Lo: 6, Hi: 10}}},
		{[]int{0x301, 0xAC00, 0x345, 0x323}, []int{0x301, 0xAC00, 0x323, 0x345}, []api.Range{{Lo: 0, Hi: 1}, {Lo: 2, Hi: 4}}},
	} {
		given := slices.Clone(c.text)
		if got := ordering.Sort(usual, c.text); !slices.Equal(got, c.sorted) || !slices.Equal(c.text, given) {
			t.Errorf("%X: %X, not %X", given, got, c.sorted)
		}
		if got := ordering.Sorted(usual, c.text); got != slices.Equal(c.text, c.sorted) {
			t.Errorf("%X: %v", c.text, got)
		}
		if got := ordering.Runs(usual, c.text); !slices.Equal(got, c.runs) {
			t.Errorf("%X: %v", c.text, got)
		}
	}
	text := []int{0x61, 0x62}
	ordering.Sort(usual, text)[0] = 99
	if text[0] != 0x61 {
		t.Error("the result shares memory with the text")
	}
}

// P20.3

// random returns a text of some starters and more other elements, in classes of one or several code points.
func random(r *rand.Rand) ([]api.Span, []int) {
	l := list(10, 12, 7, 13, 14, 3, 16, 18, 5, 19, 19, 254)
	text := make([]int, r.Intn(12))
	for i := range text {
		text[i] = 8 + r.Intn(13)
	}
	return l, text
}

// exchanged returns what arises by exchanging neighbours as long as the class of the first one is greater than that of the second one, which is not 0.
func exchanged(l []api.Span, text []int) []int {
	text = slices.Clone(text)
	for again := true; again; {
		again = false
		for i := 1; i < len(text); i++ {
			if a, b := ordering.Class(l, text[i-1]), ordering.Class(l, text[i]); b != 0 && a > b {
				text[i-1], text[i] = text[i], text[i-1]
				again = true
			}
		}
	}
	return text
}

func TestRandomTexts(t *testing.T) {
	r := rand.New(rand.NewSource(1))
	for i := range 5000 {
		l, text := random(r)
		if i%100 == 0 { // a long run, too
			for range 40 {
				text = append(text, 10+r.Intn(5))
			}
		}
		sorted := ordering.Sort(l, text)
		if !slices.Equal(sorted, exchanged(l, text)) {
			t.Fatal(text, sorted)
		}
		if !slices.Equal(ordering.Sort(l, sorted), sorted) || !ordering.Sorted(l, sorted) || ordering.Sorted(l, text) != slices.Equal(sorted, text) {
			t.Fatal(text, sorted)
		}
		checkStarters(t, l, text, sorted)
		checkRuns(t, l, text)
		for at := 1; at < len(text); at++ {
			a, b := ordering.Class(l, text[at-1]), ordering.Class(l, text[at])
			if b == 0 && !slices.Equal(slices.Concat(ordering.Sort(l, text[:at]), ordering.Sort(l, text[at:])), sorted) {
				t.Fatal(text, at)
			}
			other := slices.Clone(text)
			other[at-1], other[at] = other[at], other[at-1]
			if a != 0 && b != 0 && a != b && !slices.Equal(ordering.Sort(l, other), sorted) {
				t.Fatal(text, other)
			}
		}
	}
}

// checkStarters checks that sorting keeps the elements, and the starters where they are.
func checkStarters(t *testing.T, l []api.Span, text, sorted []int) {
	t.Helper()
	for i, c := range text {
		if ordering.Starter(l, c) != ordering.Starter(l, sorted[i]) || ordering.Starter(l, c) && c != sorted[i] {
			t.Fatal(text, sorted)
		}
	}
	if !slices.Equal(slices.Sorted(slices.Values(text)), slices.Sorted(slices.Values(sorted))) {
		t.Fatal(text, sorted)
	}
}

// checkRuns checks that exactly the elements of runs are no starters, and no two runs touch.
func checkRuns(t *testing.T, l []api.Span, text []int) {
	t.Helper()
	runs := ordering.Runs(l, text)
	within := make([]bool, len(text))
	for i, run := range runs {
		if run.Lo >= run.Hi || i > 0 && run.Lo <= runs[i-1].Hi {
			t.Fatal(text, runs)
		}
		for at := run.Lo; at < run.Hi; at++ {
			within[at] = true
		}
	}
	for i, c := range text {
		if within[i] == ordering.Starter(l, c) {
			t.Fatal(text, runs)
		}
	}
}
