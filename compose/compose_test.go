package compose_test

import (
	"cmp"
	"math"
	"math/rand"
	"slices"
	"testing"

	"unicodetext/api"
	"unicodetext/compose"
	"unicodetext/cpset"
	"unicodetext/decompose"
	"unicodetext/hangul"
	"unicodetext/ordering"
)

// usual returns data as it is in examples.
func usual() api.Norm {
	return api.Norm{
		Classes: []api.Span{{Lo: 0x300, Hi: 0x304, Value: 230}, {Lo: 0x323, Hi: 0x323, Value: 220}, {Lo: 0x344, Hi: 0x344, Value: 230}},
		Decomp: []api.Mapping{
			{From: 0xC5, To: []int{0x41, 0x300}},
			{From: 0xE2, To: []int{0x61, 0x302}},
			{From: 0xE3, To: []int{0x61, 0x302}},            // E2 is less
			{From: 0x344, To: []int{0x61, 0x303}},           // no starter
			{From: 0x345, To: []int{0x300, 0x301}},          // the first element is no starter
			{From: 0x958, To: []int{0x61, 0x304}},           // excluded
			{From: 0x1EA5, To: []int{0xE2, 0x301}},          // of a composite
			{From: 0x212B, To: []int{0xC5}},                 // a single element
			{From: 0x2500, To: []int{0x31, 0x32}, Tag: "x"}, // not canonical
			{From: 0x2501, To: []int{0x62, 0x63}},           // of two starters
			{From: 0x2502, To: []int{0x1100, 0x1161}},       // a syllable
			{From: 0x2503, To: []int{0xAC00, 0x302}},        // of a syllable
			{From: 0x2504, To: []int{0xAC00, 0x11A8}},       // a syllable, too
			{From: 0x2505, To: []int{0x64, 0x1161}},         // of another letter and a vowel
			{From: 0x2506, To: []int{0x65, 0x66}},           // of two starters
			{From: 0x2507, To: []int{0x2506, 0x1112}},       // of a composite and a leading consonant
			{From: 0x10FFFF, To: []int{0x10FFFE, 0x10FFFD}}, // the greatest code point
		},
		Excluded: api.Set{Ranges: []api.Range{{Lo: 0x950, Hi: 0x95F}}},
	}
}

// invalid returns data with different errors, which have pairs that could be composed.
func invalid() []api.Norm {
	change := func(do func(n *api.Norm)) api.Norm {
		n := usual()
		do(&n)
		return n
	}
	return []api.Norm{
		change(func(n *api.Norm) { n.Classes[0].Value = 255 }),
		change(func(n *api.Norm) { n.Excluded.Ranges[0].Hi = 0 }),
		change(func(n *api.Norm) { n.Decomp[0], n.Decomp[1] = n.Decomp[1], n.Decomp[0] }),
		change(func(n *api.Norm) { n.Decomp = append(n.Decomp, n.Decomp[len(n.Decomp)-1]) }),
		change(func(n *api.Norm) { n.Decomp[1].To = []int{0xE2, 0x302} }),
		change(func(n *api.Norm) { n.Decomp[7].To = nil }),
		change(func(n *api.Norm) { n.Decomp[0].From = -1 }),
	}
}

// P22.1

func TestPair(t *testing.T) {
	for _, c := range [][3]int{
		{0x41, 0x300, 0xC5}, {0x61, 0x302, 0xE2}, {0xE2, 0x301, 0x1EA5}, {0x62, 0x63, 0x2501}, {0xAC00, 0x302, 0x2503}, {0x64, 0x1161, 0x2505},
		{0x65, 0x66, 0x2506}, {0x2506, 0x1112, 0x2507}, {0x10FFFE, 0x10FFFD, 0x10FFFF},
		{0x1100, 0x1161, 0xAC00}, {0xAC00, 0x11A8, 0xAC01}, {0x1112, 0x1175, 0xD788}, {0xD788, 0x11C2, 0xD7A3},
		{0x61, 0x303, 0}, {0x300, 0x301, 0}, {0x61, 0x304, 0}, {0xC5, 0, 0}, {0x31, 0x32, 0}, {0x63, 0x62, 0}, {0x61, 0x323, 0}, {0xAC01, 0x11A8, 0}, {0x1100, 0x11A8, 0},
		{-1, -1, 0}, {0x61, math.MaxInt, 0}, {math.MinInt, 0x302, 0}, {0x110000, 0x302, 0},
	} {
		if got, ok := compose.Pair(usual(), c[0], c[1]); got != c[2] || ok != (c[2] != 0) {
			t.Errorf("Pair(%X, %X) = %X, %v", c[0], c[1], got, ok)
		}
	}
	// The code point 0 is a composite like others.
	zero := api.Norm{Decomp: []api.Mapping{{From: 0, To: []int{0x61, 0x62}}}}
	if got, ok := compose.Pair(zero, 0x61, 0x62); got != 0 || !ok || !compose.Primary(zero, 0) {
		t.Error(got, ok)
	}
}

func TestPairs(t *testing.T) {
	want := [][3]int{
		{0x41, 0x300, 0xC5}, {0x61, 0x302, 0xE2}, {0x62, 0x63, 0x2501}, {0x64, 0x1161, 0x2505}, {0x65, 0x66, 0x2506}, {0xE2, 0x301, 0x1EA5},
		{0x2506, 0x1112, 0x2507}, {0xAC00, 0x302, 0x2503}, {0x10FFFE, 0x10FFFD, 0x10FFFF},
	}
	if got := compose.Pairs(usual()); !slices.Equal(got, want) {
		t.Errorf("%X", got)
	}
	for i, n := range append(invalid(), api.Norm{}) {
		if got := compose.Pairs(n); len(got) != 0 {
			t.Errorf("%d: %X", i, got)
		}
	}
}

func TestPrimary(t *testing.T) {
	for c, want := range map[int]bool{
		0xC5: true, 0xE2: true, 0xE3: false, 0x344: false, 0x345: false, 0x958: false, 0x1EA5: true, 0x212B: false, 0x2500: false, 0x2501: true, 0x2502: false,
		0x2503: true, 0x2504: false, 0x10FFFF: true, 0x61: false, -1: false, math.MaxInt: false, math.MinInt: false,
		0xAC00: true, 0xAC01: true, 0xD7A3: true, 0xABFF: false, 0xD7A4: false, 0x1100: false,
	} {
		if compose.Primary(usual(), c) != want {
			t.Errorf("%X", c)
		}
		syllable := 0xAC00 <= c && c <= 0xD7A3
		for i, n := range append(invalid(), api.Norm{}) {
			if compose.Primary(n, c) != syllable {
				t.Errorf("%d: %X", i, c)
			}
		}
	}
}

func TestSecond(t *testing.T) {
	if got := cpset.Text(compose.Second(usual())); got != "0063 0066 0300..0302 1112 1161..1175 11A8..11C2 10FFFD" {
		t.Error(got)
	}
	for i, n := range append(invalid(), api.Norm{}) {
		if got := cpset.Text(compose.Second(n)); got != "1161..1175 11A8..11C2" {
			t.Error(i, got)
		}
	}
}

func TestHangulIsComposedWithoutData(t *testing.T) {
	second := compose.Second(api.Norm{})
	for c := 0xAC00; c <= 0xD7A3; c++ {
		parts := hangul.Decompose(c)
		for i, n := range []api.Norm{{}, invalid()[0]} {
			if got := compose.Text(n, parts); !slices.Equal(got, []int{c}) {
				t.Fatalf("%d: %X", i, got)
			}
		}
		if c%97 != 0 {
			continue
		}
		for _, part := range parts[1:] {
			if !cpset.Has(second, part) {
				t.Fatalf("%X", part)
			}
		}
	}
}

// P22.2

func TestText(t *testing.T) {
	for _, c := range []struct{ text, want []int }{
		{nil, nil},
		{[]int{0x61}, []int{0x61}},
		{[]int{0x61, 0x302}, []int{0xE2}},
		{[]int{0x61, 0x323, 0x302}, []int{0xE2, 0x323}},
		{[]int{0x61, 0x302, 0x323}, []int{0xE2, 0x323}},
		{[]int{0x61, 0x302, 0x301}, []int{0x1EA5}},
		{[]int{0x61, 0x301, 0x302}, []int{0x61, 0x301, 0x302}},               // the same class blocks
		{[]int{0x61, 0x323, 0x302, 0x301}, []int{0x1EA5, 0x323}},             // of what is composed, too
		{[]int{0x61, 0x323, 0x300, 0x302}, []int{0x61, 0x323, 0x300, 0x302}}, // 300 remains, and blocks
		{[]int{0x61, 0x300, 0x323, 0x302}, []int{0xE2, 0x300, 0x323}},        // only the last one that is left counts
		{[]int{0x302, 0x61}, []int{0x302, 0x61}},
		{[]int{0x302, 0x61, 0x302}, []int{0x302, 0xE2}},
		{[]int{0x62, 0x63}, []int{0x2501}},
		{[]int{0x62, 0x323, 0x63}, []int{0x62, 0x323, 0x63}}, // a starter is blocked by anything
		{[]int{0x62, 0x63, 0x62, 0x63, 0x63}, []int{0x2501, 0x2501, 0x63}},
		{[]int{0x65, 0x66, 0x1112, 0x1161}, []int{0x2507, 0x1161}},
		{[]int{0x1112, 0x1161, 0x11A8, 0x11A8}, []int{0xD558 + 1, 0x11A8}},
		{[]int{0xAC00, 0x302}, []int{0x2503}},
		{[]int{0xAC00, 0x323, 0x11A8}, []int{0xAC00, 0x323, 0x11A8}},
		{[]int{0xAC00, 0x323, 0x302, 0x11A8}, []int{0x2503, 0x323, 0x11A8}},
		{[]int{0x300, 0x301}, []int{0x300, 0x301}},
		{[]int{0x61, 0x303, 0x61, 0x304}, []int{0x61, 0x303, 0x61, 0x304}},
		{[]int{-1, 0x302, 0x61, math.MaxInt, 0x302}, []int{-1, 0x302, 0x61, math.MaxInt, 0x302}},
		{[]int{0x212B, 0xC5, 0xE3}, []int{0x212B, 0xC5, 0xE3}}, // nothing is decomposed
	} {
		given := slices.Clone(c.text)
		if got := compose.Text(usual(), c.text); !slices.Equal(got, c.want) {
			t.Errorf("Text(%X) = %X", c.text, got)
		}
		if !slices.Equal(c.text, given) {
			t.Errorf("%X has changed", given)
		}
	}
	for i, n := range invalid() {
		text := []int{0x61, 0x302, 0x41, 0x300, 0x62, 0x63, 0xAC00, 0x302}
		if got := compose.Text(n, text); !slices.Equal(got, text) {
			t.Errorf("%d: %X", i, got)
		}
	}
}

// naivePair returns the primary composite by the definition.
func naivePair(n api.Norm, a, b int) (int, bool) {
	if c, ok := hangul.Compose(a, b); ok {
		return c, true
	}
	found, ok := 0, false
	for _, m := range n.Decomp {
		starters := ordering.Class(n.Classes, m.From) == 0 && ordering.Class(n.Classes, a) == 0
		if m.Tag == "" && slices.Equal(m.To, []int{a, b}) && starters && !cpset.Has(n.Excluded, m.From) && (!ok || m.From < found) {
			found, ok = m.From, true
		}
	}
	return found, ok
}

// naiveText composes a sequence by the definition. What was removed remains in its place as nil.
func naiveText(n api.Norm, text []int) []int {
	class := func(c int) int { return ordering.Class(n.Classes, c) }
	left := make([]*int, len(text))
	for i, c := range text {
		left[i] = &c
	}
	for i := 1; i < len(text); i++ {
		starter := i - 1
		for starter >= 0 && (left[starter] == nil || class(*left[starter]) != 0) {
			starter--
		}
		if starter < 0 {
			continue
		}
		var between []int
		for _, c := range left[starter+1 : i] {
			if c != nil {
				between = append(between, *c)
			}
		}
		if len(between) > 0 {
			if last := class(between[len(between)-1]); last == 0 || last >= class(*left[i]) {
				continue
			}
		}
		if c, ok := naivePair(n, *left[starter], *left[i]); ok {
			left[starter], left[i] = &c, nil
		}
	}
	var out []int
	for _, c := range left {
		if c != nil {
			out = append(out, *c)
		}
	}
	return out
}

// randomNorm returns valid data over few code points.
func randomNorm(r *rand.Rand) api.Norm {
	for {
		var n api.Norm
		for c := 0x30; c < 0x38; c++ {
			if r.Intn(4) > 0 {
				n.Classes = append(n.Classes, api.Span{Lo: c, Hi: c, Value: 1 + r.Intn(3)*2 + (c & 1)})
			}
		}
		for c := 0x20; c < 0x34; c++ {
			if r.Intn(3) == 0 {
				continue
			}
			m := api.Mapping{From: c, To: []int{0x20 + r.Intn(0x18), 0x20 + r.Intn(0x1A)}}
			if r.Intn(8) == 0 {
				m.To[0] = 0x1100
			}
			switch r.Intn(8) {
			case 0:
				m.To = m.To[:1]
			case 1:
				m.Tag = "x"
			}
			n.Decomp = append(n.Decomp, m)
		}
		n.Excluded = cpset.Make([]api.Range{{Lo: 0x20 + r.Intn(8), Hi: 0x20 + r.Intn(16)}})
		if decompose.Check(n) == api.OK {
			return n
		}
	}
}

// randomText returns elements that have classes, or are parts of pairs, which often stand together.
func randomText(r *rand.Rand, n api.Norm, most int) []int {
	var text []int
	for range r.Intn(most + 1) {
		switch r.Intn(4) {
		case 0:
			text = append(text, []int{0xAC00, 0x1100, 0x1161, 0x11A8, -1, api.MaxCode + 1}[r.Intn(6)])
		case 1:
			text = append(text, 0x20+r.Intn(0x1A))
		default:
			to := n.Decomp[r.Intn(len(n.Decomp))].To
			text = append(text, to[0])
			for r.Intn(3) == 0 {
				text = append(text, 0x30+r.Intn(8))
			}
			text = append(text, to[1:]...)
		}
	}
	return text
}

// eachCase calls do for random valid data and texts.
func eachCase(seed int64, do func(n api.Norm, text []int)) {
	r := rand.New(rand.NewSource(seed))
	for range 400 {
		n := randomNorm(r)
		for range 25 {
			do(n, randomText(r, n, 6))
		}
	}
}

func TestAgreesWithTheDefinition(t *testing.T) {
	composed := 0
	eachCase(1, func(n api.Norm, text []int) {
		want := naiveText(n, text)
		if got := compose.Text(n, text); !slices.Equal(got, want) {
			t.Fatalf("%v: Text(%X) = %X, not %X", n, text, got, want)
		}
		composed += len(text) - len(want)
	})
	if composed < 1000 {
		t.Error(composed)
	}
}

func TestPairsAgreeWithTheDefinition(t *testing.T) {
	r := rand.New(rand.NewSource(2))
	for range 60 {
		n := randomNorm(r)
		var want [][3]int
		var second []api.Range
		primary := map[int]bool{}
		for a := 0x20; a < 0x3A; a++ {
			for b := 0x20; b < 0x3A; b++ {
				c, ok := naivePair(n, a, b)
				if got, has := compose.Pair(n, a, b); got != c || has != ok {
					t.Fatalf("%v: %X %X: %X, %v", n, a, b, got, has)
				}
				if ok {
					want = append(want, [3]int{a, b, c})
				}
			}
		}
		for b := 0x20; b < 0x3A; b++ {
			if c, ok := naivePair(n, 0x1100, b); ok {
				want = append(want, [3]int{0x1100, b, c})
			}
		}
		slices.SortFunc(want, func(a, b [3]int) int { return cmp.Or(cmp.Compare(a[0], b[0]), cmp.Compare(a[1], b[1])) })
		if got := compose.Pairs(n); !slices.Equal(got, want) {
			t.Fatalf("%v: %X, not %X", n, got, want)
		}
		for _, p := range want {
			primary[p[2]] = true
			second = append(second, api.Range{Lo: p[1], Hi: p[1]})
		}
		for c := 0x10; c < 0x40; c++ {
			if compose.Primary(n, c) != primary[c] {
				t.Fatalf("%v: %X", n, c)
			}
		}
		set := cpset.Or(cpset.Make(second), compose.Second(api.Norm{}))
		if got := compose.Second(n); !slices.Equal(got.Ranges, set.Ranges) {
			t.Fatalf("%v: %s", n, cpset.Text(got))
		}
	}
}

// P22.3

func TestDecomposingUndoesComposing(t *testing.T) {
	eachCase(3, func(n api.Norm, text []int) {
		given := decompose.Text(n, text, false)
		composed := compose.Text(n, given)
		if got := decompose.Text(n, composed, false); !slices.Equal(got, given) {
			t.Fatalf("%v: %X: %X: %X", n, given, composed, got)
		}
	})
}

func TestComposingDistributes(t *testing.T) {
	divided := 0
	eachCase(4, func(n api.Norm, text []int) {
		second := compose.Second(n)
		for i, c := range text {
			if !ordering.Starter(n.Classes, c) || cpset.Has(second, c) {
				continue
			}
			divided++
			both := append(compose.Text(n, text[:i]), compose.Text(n, text[i:])...)
			if got := compose.Text(n, text); !slices.Equal(got, both) {
				t.Fatalf("%v: %X and %X: %X", n, text[:i], text[i:], got)
			}
		}
	})
	if divided < 1000 {
		t.Error(divided)
	}
}
