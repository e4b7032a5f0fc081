package colltable_test

import (
	"math"
	"math/rand"
	"slices"
	"testing"

	"unicodetext/api"
	"unicodetext/codepoint"
	"unicodetext/colltable"
	"unicodetext/decompose"
	"unicodetext/ordering"
)

// norm returns data with classes and mappings.
func norm() api.Norm {
	return api.Norm{
		Classes: []api.Span{{Lo: 0x300, Hi: 0x305, Value: 230}, {Lo: 0x323, Hi: 0x323, Value: 220}, {Lo: 0x327, Hi: 0x327, Value: 202}},
		Decomp: []api.Mapping{
			{From: 0xE1, To: []int{0x61, 0x301}},
			{From: 0xE2, To: []int{0x62, 0x63}, Tag: "x"},
			{From: 0x1EA1, To: []int{0x61, 0x323}},
		},
	}
}

// invalidNorm returns data that is not valid, though its classes are.
func invalidNorm() api.Norm {
	n := norm()
	n.Decomp[1].From = 0xE1
	return n
}

// P43.3

func TestStep(t *testing.T) {
	implicit := func(code int) []api.Element { return colltable.Implicit(usual(), code) }
	for i, c := range []struct {
		text  []int
		n     int
		rest  []int
		found []api.Element
	}{
		{nil, 0, nil, nil},
		{[]int{0x61}, 1, nil, elements(10)},
		{[]int{0x00, 0x61}, 1, []int{0x61}, nil},
		{[]int{0x62, 0x63}, 1, []int{0x63}, elements(15, 16)},
		{[]int{0x61, 0x62}, 1, []int{0x62}, elements(10)},
		{[]int{0x61, 0x62, 0x63, 0x64}, 3, []int{0x64}, elements(11)},
		{[]int{0x61, 0x62, 0x64}, 1, []int{0x62, 0x64}, elements(10)},
		{[]int{0x64, 0x61}, 1, []int{0x61}, implicit(0x64)},
		{[]int{0x65, 0x66}, 2, nil, elements(17)},
		{[]int{0x65, 0x67}, 1, []int{0x67}, implicit(0x65)},
		{[]int{-1, 0x61}, 1, []int{0x61}, nil},
		{[]int{math.MaxInt}, 1, nil, nil},
		{[]int{0x10FFFF, math.MinInt}, 1, []int{math.MinInt}, implicit(0x10FFFF)},
		{[]int{0xE1}, 1, nil, implicit(0xE1)}, // nothing is decomposed
		{[]int{0x61, 0x301}, 2, nil, elements(12)},
		{[]int{0x61, 0x323, 0x301}, 2, []int{0x301}, elements(14)}, // the longest beginning comes first
		{[]int{0x61, 0x327, 0x301}, 2, []int{0x327}, elements(12)}, // 327 is passed over
		{[]int{0x61, 0x327, 0x323, 0x301, 0x62}, 2, []int{0x327, 0x301, 0x62}, elements(14)},
		{[]int{0x61, 0x327, 0x301, 0x305, 0x323}, 3, []int{0x327, 0x323}, elements(13)}, // classes of what is taken do not matter
		{[]int{0x61, 0x301, 0x327, 0x305}, 3, []int{0x327}, elements(13)},
		{[]int{0x61, 0x300, 0x301}, 1, []int{0x300, 0x301}, elements(10)},               // the same class as 300
		{[]int{0x61, 0x300, 0x323, 0x301}, 1, []int{0x300, 0x323, 0x301}, elements(10)}, // a lower class than 300
		{[]int{0x61, 0x301, 0x300, 0x305}, 2, []int{0x300, 0x305}, elements(12)},
		{[]int{0x61, 0x64, 0x301}, 1, []int{0x64, 0x301}, elements(10)}, // a starter in between
		{[]int{0x61, 0x327, 0x62, 0x301}, 1, []int{0x327, 0x62, 0x301}, elements(10)},
		{[]int{0x61, 0x327, -1, 0x301}, 1, []int{0x327, -1, 0x301}, elements(10)},
		{[]int{0x61, 0x327, 0x62, 0x63}, 1, []int{0x327, 0x62, 0x63}, elements(10)}, // starters are not taken
		{[]int{0x65, 0x327, 0x66}, 1, []int{0x327, 0x66}, implicit(0x65)},
		{[]int{0x301, 0x323}, 1, []int{0x323}, elements(900)},
	} {
		given := slices.Clone(c.text)
		n, rest, found := colltable.Step(norm(), usual(), c.text)
		if n != c.n || !slices.Equal(rest, c.rest) || !slices.Equal(found, c.found) {
			t.Errorf("%d: Step(%X) = %d, %X, %v", i, c.text, n, rest, found)
		}
		if !slices.Equal(c.text, given) {
			t.Errorf("%d: %X has changed", i, given)
		}
	}
}

func TestStepWithoutClasses(t *testing.T) {
	for i, n := range []api.Norm{{}, invalidNorm()} {
		size, rest, found := colltable.Step(n, usual(), []int{0x61, 0x327, 0x301})
		if size != 1 || !slices.Equal(rest, []int{0x327, 0x301}) || !slices.Equal(found, elements(10)) {
			t.Error(i, size, rest, found)
		}
		size, rest, found = colltable.Step(n, usual(), []int{0x61, 0x301, 0x305, 0x327})
		if size != 3 || !slices.Equal(rest, []int{0x327}) || !slices.Equal(found, elements(13)) {
			t.Error(i, size, rest, found)
		}
	}
}

func TestInvalidCollationsCountAsEmpty(t *testing.T) {
	for i, c := range checks() {
		if c.errno == api.OK {
			continue
		}
		n, rest, found := colltable.Step(norm(), c.collation, []int{0x61, 0x301})
		if n != 1 || !slices.Equal(rest, []int{0x301}) || !slices.Equal(found, colltable.Implicit(api.Collation{}, 0x61)) {
			t.Error(i, n, rest, found)
		}
		if l := colltable.Elements(norm(), c.collation, []int{0xE1, -1}); !slices.Equal(l, slices.Concat(colltable.Implicit(api.Collation{}, 0x61), colltable.Implicit(api.Collation{}, 0x301))) {
			t.Error(i, l)
		}
		if colltable.Known(norm(), c.collation, []int{0x61}) || !colltable.Known(norm(), c.collation, nil) {
			t.Error(i)
		}
	}
}

func TestElementsAndKnown(t *testing.T) {
	implicit := func(code int) []api.Element { return colltable.Implicit(usual(), code) }
	for i, c := range []struct {
		text  []int
		want  []api.Element
		known bool
	}{
		{nil, nil, true},
		{[]int{0x61, 0x62, 0x63, 0x62}, elements(11, 15, 16), true},
		{[]int{0xE1}, elements(12), true},
		{[]int{0x1EA1, 0x301}, elements(14, 900), true},
		{[]int{0xE1, 0x323}, elements(14, 900), true}, // sorted
		{[]int{0x61, 0x327, 0x301, 0x61}, slices.Concat(elements(12), implicit(0x327), elements(10)), false},
		{[]int{0xE2}, implicit(0xE2), false}, // without compat
		{[]int{0x65, 0x66, 0x65}, slices.Concat(elements(17), implicit(0x65)), false},
		{[]int{0}, nil, true},
		{[]int{-1, 0x61}, elements(10), false},
		{[]int{0xAC00}, slices.Concat(implicit(0x1100), implicit(0x1161)), false},
	} {
		if got := colltable.Elements(norm(), usual(), c.text); !slices.Equal(got, c.want) {
			t.Errorf("%d: Elements(%X) = %v", i, c.text, got)
		}
		if got := colltable.Known(norm(), usual(), c.text); got != c.known {
			t.Errorf("%d: Known(%X) = %v", i, c.text, got)
		}
	}
}

// naiveStep returns the length of the matched part and the sequence that is left, by the definition.
func naiveStep(n api.Norm, c api.Collation, text []int) (int, []int) {
	has := func(codes []int) bool {
		return slices.ContainsFunc(c.Entries, func(e api.Entry) bool { return slices.Equal(e.Codes, codes) })
	}
	size := len(text)
	for size > 0 && !has(text[:size]) {
		size--
	}
	if size == 0 {
		return 1, text[1:]
	}
	matched := slices.Clone(text[:size])
	var passed, classes []int
	i := size
	for ; i < len(text) && !ordering.Starter(n.Classes, text[i]); i++ {
		class := ordering.Class(n.Classes, text[i])
		greater := !slices.ContainsFunc(classes, func(other int) bool { return other >= class })
		if longer := append(slices.Clone(matched), text[i]); greater && has(longer) {
			matched = longer
		} else {
			passed = append(passed, text[i])
			classes = append(classes, class)
		}
	}
	return len(matched), append(passed, text[i:]...)
}

// randomCollation returns a valid collation over few code points, in which most entries begin with a letter and go on with marks.
func randomCollation(r *rand.Rand, codes int) api.Collation {
	c := api.Collation{Base: 500, Second: 1 + r.Intn(9), Third: 1 + r.Intn(9)}
	for range 40 {
		e := entry([]int{0x20 + r.Intn(8)})
		if r.Intn(3) == 0 {
			e.Codes[0] += 0x10
		}
		for len(e.Codes) < codes && r.Intn(3) > 0 {
			e.Codes = append(e.Codes, 0x30+r.Intn(8))
			if r.Intn(9) == 0 {
				e.Codes[len(e.Codes)-1] -= 0x10
			}
		}
		for range r.Intn(3) {
			e.Elements = append(e.Elements, elements(1+r.Intn(499))...)
		}
		c.Entries = append(c.Entries, e)
	}
	slices.SortStableFunc(c.Entries, func(a, b api.Entry) int { return codepoint.Compare(a.Codes, b.Codes) })
	c.Entries = slices.CompactFunc(c.Entries, func(a, b api.Entry) bool { return slices.Equal(a.Codes, b.Codes) })
	return c
}

// randomNorm returns valid data in which 30 to 37 have classes, and code points from 40 on have mappings.
func randomNorm(r *rand.Rand) api.Norm {
	for {
		var n api.Norm
		for c := 0x30; c < 0x38; c++ {
			n.Classes = append(n.Classes, api.Span{Lo: c, Hi: c, Value: 1 + c%2 + 2*r.Intn(2)})
		}
		for c := 0x40; c < 0x48; c++ {
			n.Decomp = append(n.Decomp, api.Mapping{From: c, To: []int{0x20 + r.Intn(0x28), 0x30 + r.Intn(8)}})
		}
		if decompose.Check(n) == api.OK {
			return n
		}
	}
}

// randomText returns letters with marks, perhaps composed.
func randomText(r *rand.Rand, most int) []int {
	text := make([]int, r.Intn(most+1))
	for i := range text {
		text[i] = []int{0x20, 0x30, 0x30, 0x40}[r.Intn(4)] + r.Intn(8)
		if r.Intn(30) == 0 {
			text[i] = -1
		}
	}
	return text
}

// eachCase calls do for random valid data, and for texts.
func eachCase(t *testing.T, seed int64, codes int, do func(n api.Norm, c api.Collation, text []int)) {
	t.Helper()
	r := rand.New(rand.NewSource(seed))
	for range 150 {
		n, c := randomNorm(r), randomCollation(r, codes)
		if errno := colltable.Check(c); errno != api.OK {
			t.Fatal(c, errno)
		}
		for range 20 {
			do(n, c, randomText(r, 10))
		}
	}
}

func TestAgreesWithTheDefinition(t *testing.T) {
	passed := 0
	eachCase(t, 1, 5, func(n api.Norm, c api.Collation, text []int) {
		for _, given := range [][]int{text, decompose.Text(n, text, false)} {
			var all []api.Element
			known := true
			for rest := given; len(rest) > 0; {
				size, left := naiveStep(n, c, rest)
				got, gotLeft, found := colltable.Step(n, c, rest)
				if got != size || !slices.Equal(gotLeft, left) {
					t.Fatalf("%v: %v: Step(%X) = %d, %X, not %d, %X", n, c.Entries, rest, got, gotLeft, size, left)
				}
				if !slices.Equal(left, rest[size:]) {
					passed++
				}
				codes := slices.Clone(rest[:size])
				if size > 1 {
					codes = matchedCodes(rest, left)
				}
				want, ok := colltable.Find(c, codes)
				if !ok {
					want = colltable.Implicit(c, codes[0])
				}
				if !slices.Equal(found, want) {
					t.Fatalf("%v: Step(%X): %v, not %v", c.Entries, rest, found, want)
				}
				all = append(all, found...)
				known = known && ok
				rest = left
			}
			if !slices.Equal(given, decompose.Text(n, text, false)) {
				continue
			}
			if got := colltable.Elements(n, c, text); !slices.Equal(got, all) || colltable.Known(n, c, text) != known {
				t.Fatalf("%v: %v: Elements(%X) = %v, not %v", n, c.Entries, text, got, all)
			}
		}
	})
	if passed < 100 {
		t.Error(passed)
	}
}

// matchedCodes returns the elements of a sequence that are not left.
func matchedCodes(text, left []int) []int {
	var codes []int
	for i := len(text) - 1; i >= 0; i-- {
		if last := len(left) - 1; last >= 0 && left[last] == text[i] {
			left = left[:last]
		} else {
			codes = append(codes, text[i])
		}
	}
	slices.Reverse(codes)
	return codes
}

// P43.4

func TestEquivalentSequencesHaveTheSameElements(t *testing.T) {
	eachCase(t, 2, 5, func(n api.Norm, c api.Collation, text []int) {
		same := decompose.Text(n, text, false)
		if !slices.Equal(colltable.Elements(n, c, text), colltable.Elements(n, c, same)) {
			t.Fatalf("%v: %v: %X and %X", n, c, text, same)
		}
	})
}

func TestElementsDistribute(t *testing.T) {
	divided := 0
	eachCase(t, 3, 1, func(n api.Norm, c api.Collation, text []int) {
		for i, code := range text {
			if first := decompose.Char(n, code, false); !ordering.Starter(n.Classes, first[0]) {
				continue
			}
			divided++
			both := append(colltable.Elements(n, c, text[:i]), colltable.Elements(n, c, text[i:])...)
			if !slices.Equal(colltable.Elements(n, c, text), both) {
				t.Fatalf("%v: %v: %X and %X", n, c, text[:i], text[i:])
			}
		}
	})
	if divided < 1000 {
		t.Error(divided)
	}
}

func TestMatchedPartIsAsLongAsTheLongestBeginning(t *testing.T) {
	eachCase(t, 4, 5, func(n api.Norm, c api.Collation, text []int) {
		size, _, _ := colltable.Step(n, c, text)
		for longest := range len(text) + 1 {
			if _, ok := colltable.Find(c, text[:longest]); ok && size < longest {
				t.Fatalf("%v: %X: %d", c.Entries, text, size)
			}
		}
	})
}

// A long text takes no longer than its length asks for.
func TestLongTexts(t *testing.T) {
	text := slices.Repeat([]int{0x61, 0x327, 0x301, 0x64, 0xE1}, 20000)
	if l := colltable.Elements(norm(), usual(), text); len(l) != 20000*(1+2+2+1) {
		t.Error(len(l))
	}
	marks := append([]int{0x61}, slices.Repeat([]int{0x301}, 50000)...)
	if l := colltable.Elements(norm(), usual(), marks); len(l) != 50000 {
		t.Error(len(l))
	}
}
