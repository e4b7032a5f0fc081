package decompose_test

import (
	"math/rand"
	"reflect"
	"slices"
	"testing"

	"unicodetext/api"
	"unicodetext/cpset"
	"unicodetext/decompose"
	"unicodetext/ordering"
)

// randomValid returns valid data.
func randomValid(r *rand.Rand) api.Norm {
	for {
		if n := randomNorm(r); naiveErrno(n) == api.OK {
			return n
		}
	}
}

// randomText returns elements that have mappings, classes, both, or neither.
func randomText(r *rand.Rand, most int) []int {
	text := make([]int, r.Intn(most+1))
	for i := range text {
		text[i] = 0x20 + r.Intn(0x22)
		if r.Intn(10) == 0 {
			text[i] = []int{0xAC00, 0xAC01, 0x1100, 0x11A8, -1, api.MaxCode + 1}[r.Intn(6)]
		}
	}
	return text
}

// eachCase calls do for random valid data and texts.
func eachCase(seed int64, do func(n api.Norm, text []int, compat bool)) {
	r := rand.New(rand.NewSource(seed))
	for range 500 {
		n := randomValid(r)
		for range 10 {
			do(n, randomText(r, 9), r.Intn(2) == 0)
		}
	}
}

func TestDecompositionsAgreeWithTheDefinition(t *testing.T) {
	eachCase(2, func(n api.Norm, text []int, compat bool) {
		want := ordering.Sort(n.Classes, naiveFull(n, text, compat, false))
		if got := decompose.Text(n, text, compat); !slices.Equal(got, want) {
			t.Fatalf("%v: Text(%X, %v) = %X, not %X", n, text, compat, got, want)
		}
		for _, c := range text {
			to, ok := naiveTarget(n, c, compat)
			if once, has := decompose.Once(n, c, compat); !slices.Equal(once, to) || has != ok {
				t.Fatalf("%v: Once(%X, %v) = %X, %v", n, c, compat, once, has)
			}
			if char := decompose.Char(n, c, compat); !slices.Equal(char, naiveFull(n, []int{c}, compat, false)) {
				t.Fatalf("%v: Char(%X, %v) = %X", n, c, compat, char)
			}
			if cpset.Has(decompose.Changed(n, compat), c) != ok {
				t.Fatalf("%v: Changed, %X", n, c)
			}
		}
	})
}

// Data that is not valid counts as none, also where a mapping or a class is found in it.
func TestDataThatIsNotValidCountsAsNone(t *testing.T) {
	text := []int{0x301, 0x61, 0x305, 0x302, 0x62, 0x301, 0x300, 0xAC00, 0x41, 0x42, 0x1000, 0x1008, 0x2000, 0x1100, 0x1175, 5, 6, 0x60, -1}
	want := slices.Concat(text[:7], []int{0x1100, 0x1161}, text[8:])
	for i, c := range append(checks(), limits()...) {
		if c.errno == api.OK {
			continue
		}
		for _, compat := range []bool{false, true} {
			if got := decompose.Text(c.norm, text, compat); !slices.Equal(got, want) {
				t.Errorf("%d: %X", i, got)
			}
			for _, code := range text {
				char, once, ok := []int{code}, []int(nil), false
				if code == 0xAC00 {
					char, once, ok = []int{0x1100, 0x1161}, []int{0x1100, 0x1161}, true
				}
				if got := decompose.Char(c.norm, code, compat); !slices.Equal(got, char) {
					t.Errorf("%d: %X: %X", i, code, got)
				}
				if got, has := decompose.Once(c.norm, code, compat); !slices.Equal(got, once) || has != ok {
					t.Errorf("%d: %X: %X", i, code, got)
				}
			}
			if got := cpset.Text(decompose.Changed(c.norm, compat)); got != "AC00..D7A3" {
				t.Errorf("%d: %s", i, got)
			}
		}
	}
}

// The sequence is not sorted by classes that are valid themselves, if the data is not.
func TestClassesOfDataThatIsNotValidDoNotCount(t *testing.T) {
	n := usual()
	n.Excluded = api.Set{Ranges: []api.Range{{Lo: 2, Hi: 1}}}
	if got := decompose.Text(n, []int{0x61, 0x301, 0x323, 0xAC00}, false); !slices.Equal(got, []int{0x61, 0x301, 0x323, 0x1100, 0x1161}) {
		t.Errorf("%X", got)
	}
}

func TestResultsShareNoMemory(t *testing.T) {
	n := usual()
	text := []int{0x61, 0x62}
	clear(decompose.Text(n, text, true))
	if text[0] != 0x61 {
		t.Error("the text has changed")
	}
	for _, m := range n.Decomp {
		once, _ := decompose.Once(n, m.From, true)
		clear(once)
		clear(decompose.Char(n, m.From, true))
		clear(decompose.Text(n, []int{m.From}, true))
	}
	if !reflect.DeepEqual(n, usual()) {
		t.Error("the data has changed", n)
	}
}

// P21.3

func TestTextIsIdempotent(t *testing.T) {
	eachCase(3, func(n api.Norm, text []int, compat bool) {
		once := decompose.Text(n, text, compat)
		if twice := decompose.Text(n, once, compat); !slices.Equal(twice, once) {
			t.Fatalf("%v: %X: %X, %X", n, text, once, twice)
		}
		changed := decompose.Changed(n, compat)
		if slices.ContainsFunc(once, func(c int) bool { return cpset.Has(changed, c) }) {
			t.Fatalf("%v: %X: %X", n, text, once)
		}
		if both := decompose.Text(n, decompose.Text(n, text, false), true); !slices.Equal(both, decompose.Text(n, text, true)) {
			t.Fatalf("%v: %X: %X", n, text, both)
		}
	})
}

func TestCharAndTextDistribute(t *testing.T) {
	divided := 0
	eachCase(4, func(n api.Norm, text []int, compat bool) {
		for i, c := range text {
			if to, ok := decompose.Once(n, c, compat); ok {
				var all []int
				for _, e := range to {
					all = append(all, decompose.Char(n, e, compat)...)
				}
				if !slices.Equal(all, decompose.Char(n, c, compat)) {
					t.Fatalf("%v: %X", n, c)
				}
			}
			if first := decompose.Char(n, c, compat); len(first) > 0 && ordering.Starter(n.Classes, first[0]) {
				divided++
				both := append(decompose.Text(n, text[:i], compat), decompose.Text(n, text[i:], compat)...)
				if !slices.Equal(both, decompose.Text(n, text, compat)) {
					t.Fatalf("%v: %X and %X", n, text[:i], text[i:])
				}
			}
		}
	})
	if divided < 1000 {
		t.Error(divided)
	}
}
