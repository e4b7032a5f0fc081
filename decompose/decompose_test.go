package decompose_test

import (
	"math"
	"math/rand"
	"slices"
	"testing"

	"unicodetext/api"
	"unicodetext/cpset"
	"unicodetext/decompose"
	"unicodetext/hangul"
	"unicodetext/ordering"
)

const last = api.MaxCode

// usual returns data as it is in examples: with classes, chains, tags, and an empty mapping.
func usual() api.Norm {
	return api.Norm{
		Classes: []api.Span{{Lo: 0x301, Hi: 0x302, Value: 230}, {Lo: 0x323, Hi: 0x323, Value: 220}, {Lo: 0x340, Hi: 0x340, Value: 230}},
		Decomp: []api.Mapping{
			{From: 0xA0, Tag: "nothing"},
			{From: 0xBD, To: []int{0x31, 0x2044, 0x32}, Tag: "fraction"},
			{From: 0xE2, To: []int{0x61, 0x302}},
			{From: 0x340, To: []int{0x301}},
			{From: 0x1EA5, To: []int{0xE2, 0x301}},
			{From: 0x212B, To: []int{0xC5}},
			{From: 0x3131, To: []int{0xAC01, 0xA0, 0x1EA5}, Tag: "compat"},
			{From: 0xFB01, To: []int{0x66, 0x69}, Tag: "compat"},
		},
		Excluded: api.Set{Ranges: []api.Range{{Lo: 0x340, Hi: 0x341}}},
	}
}

// doubling returns mappings of 1000 to two 1001, of this to two 1002, and so on, which together make 2 to the n elements.
func doubling(n int) []api.Mapping {
	var l []api.Mapping
	for i := range n {
		l = append(l, api.Mapping{From: 0x1000 + i, To: []int{0x1001 + i, 0x1001 + i}})
	}
	return l
}

// A checked is data with the error that Check returns for it.
type checked struct {
	errno api.Errno
	norm  api.Norm
}

// with returns data with these mappings only.
func with(l ...api.Mapping) api.Norm {
	return api.Norm{Decomp: l}
}

// limits are data that has full decompositions of as many elements as permitted, or one more.
func limits() []checked {
	fill := func(c, n int) []int { return slices.Repeat([]int{c}, n) }
	return []checked{
		{api.OK, with(doubling(6)...)},
		{api.ErrLimit, with(doubling(7)...)},
		{api.ErrLimit, with(doubling(200)...)},
		{api.OK, with(api.Mapping{From: 0x41, To: fill(0x42, 64), Tag: "x"})},
		{api.ErrLimit, with(api.Mapping{From: 0x41, To: fill(0x42, 64), Tag: "x"}, api.Mapping{From: 0x42, To: []int{0x61, 0x62}})},
		{api.OK, with(api.Mapping{From: 0x41, To: fill(0x42, 64), Tag: "x"}, api.Mapping{From: 0x42, Tag: "y"})},
		{api.ErrLimit, with(api.Mapping{From: 0x41, To: []int{0x42, 0x42}}, api.Mapping{From: 0x42, To: fill(0x43, 33), Tag: "x"}, api.Mapping{From: 0x43, Tag: "y"})},
		{api.OK, with(api.Mapping{From: 0x41, To: append(fill(0xAC01, 21), 0x61), Tag: "x"})},
		{api.ErrLimit, with(api.Mapping{From: 0x41, To: append(fill(0xAC01, 21), 0xAC00), Tag: "x"})},
		{api.OK, with(api.Mapping{From: 0x41, To: fill(0xAC00, 32), Tag: "x"})},
		{api.ErrCycle, with(append([]api.Mapping{{From: 0x41, To: []int{0x41}}}, doubling(9)...)...)},
		{api.ErrCycle, with(append(doubling(9), api.Mapping{From: 0x2000, To: []int{0x2000, 0x61}})...)},
	}
}

// checks are data with each error, also with those that are named later.
func checks() []checked {
	cycle := []api.Mapping{{From: 0x61, To: []int{0x62}}, {From: 0x62, To: []int{0x61}, Tag: "x"}}
	badSet := api.Set{Ranges: []api.Range{{Lo: 5, Hi: 4}}}
	span := func(lo, hi, value int) []api.Span { return []api.Span{{Lo: lo, Hi: hi, Value: value}} }
	return []checked{
		{api.OK, api.Norm{}},
		{api.OK, usual()},
		{api.ErrRange, api.Norm{Classes: span(5, 5, 0), Decomp: []api.Mapping{{From: 5, Tag: "-"}}, Excluded: badSet}},
		{api.ErrOrder, api.Norm{Classes: append(span(5, 5, 1), span(6, 6, 1)...), Decomp: []api.Mapping{{From: -1}}}},
		{api.ErrData, api.Norm{Classes: span(0x1100, 0x1100, 1), Decomp: []api.Mapping{{From: -1}}}},
		{api.ErrRange, api.Norm{Decomp: []api.Mapping{{From: -1}}, Excluded: badSet}},
		{api.ErrSize, with(api.Mapping{From: 0x61, To: make([]int, 65), Tag: "x"}, api.Mapping{From: 0x61})},
		{api.ErrName, with(api.Mapping{From: 0x61, Tag: "<"}, api.Mapping{From: 0x61})},
		{api.ErrTwice, api.Norm{Decomp: []api.Mapping{{From: 0x61}, {From: 0x61}}, Excluded: badSet}},
		{api.ErrOrder, api.Norm{Decomp: []api.Mapping{{From: 0x62}, {From: 0x61}}, Excluded: badSet}},
		{api.ErrData, api.Norm{Decomp: []api.Mapping{{From: 0x61, Tag: "x"}, {From: 0x61, Tag: "y"}}, Excluded: badSet}},
		{api.ErrTwice, with(api.Mapping{From: 0x60}, api.Mapping{From: 0x61, Tag: "x"}, api.Mapping{From: 0x61, Tag: "y"})},
		{api.ErrTwice, with(api.Mapping{From: 0x61, To: []int{0x61}}, api.Mapping{From: 0x61, To: []int{0x62}, Tag: "y"})},
		{api.ErrKind, with(api.Mapping{From: 0x61}, api.Mapping{From: 0xAC00, To: []int{0x61}})},
		{api.ErrKind, with(api.Mapping{From: 0x61, To: []int{0x62, 0x63, 0x64}})},
		{api.ErrKind, with(api.Mapping{From: 0x61, To: []int{0x61}}, api.Mapping{From: 0x62, To: []int{1, 2, 3}})},
		{api.ErrData, with(append(slices.Clone(cycle), api.Mapping{From: 0xAC00, To: []int{0x61}})...)},
		{api.ErrData, with(api.Mapping{From: 0x1100, To: []int{0x61}})},
		{api.ErrData, with(api.Mapping{From: 0x1175, To: []int{0x61}, Tag: "x"})},
		{api.ErrData, with(api.Mapping{From: 0x11A8, Tag: "x"})},
		{api.ErrData, with(api.Mapping{From: 0xD7A3, To: []int{0x61, 0x62}})},
		{api.OK, with(api.Mapping{From: 0x1113, To: []int{0x61}}, api.Mapping{From: 0xD7A4, To: []int{0x1100, 0xAC00}})},
		{api.ErrData, api.Norm{Classes: span(0x300, 0x305, 9), Decomp: []api.Mapping{{From: 0x305, To: []int{0x61}, Tag: "x"}}}},
		{api.ErrData, api.Norm{Classes: span(0x300, 0x305, 9), Decomp: []api.Mapping{{From: 0x300, Tag: "x"}, {From: 0x400, To: []int{0x400}}}}},
		{api.OK, api.Norm{Classes: span(0x300, 0x305, 9), Decomp: []api.Mapping{{From: 0x305, To: []int{0x61}}, {From: 0x306, To: []int{0x300}, Tag: "x"}}}},
		{api.ErrCycle, with(cycle...)},
		{api.ErrCycle, with(api.Mapping{From: 0x61, To: []int{0x61}})},
		{api.ErrCycle, with(api.Mapping{From: 0x61, To: []int{0x62}}, api.Mapping{From: 0x62, To: []int{0x63, 0x62}})},
		{api.ErrCycle, with(api.Mapping{From: 0x61, To: []int{0x62}}, api.Mapping{From: 0x62, To: []int{0x64, 0x63}}, api.Mapping{From: 0x63, To: []int{0x61}, Tag: "x"})},
		{api.OK, with(api.Mapping{From: 0x61, To: []int{0x62, 0x63}}, api.Mapping{From: 0x62, To: []int{0x63}}, api.Mapping{From: 0x63, To: []int{0x64}})},
	}
}

// P21.1

func TestCheck(t *testing.T) {
	for i, c := range append(checks(), limits()...) {
		if errno := decompose.Check(c.norm); errno != c.errno {
			t.Errorf("%d: %v: %v, not %v", i, c.norm, errno, c.errno)
		}
	}
}

// reaches reports whether replacing c leads to c again.
func reaches(n api.Norm, c int) bool {
	seen := map[int]bool{}
	next := []int{c}
	for len(next) > 0 {
		to, ok := naiveTarget(n, next[0], true)
		next = next[1:]
		if !ok {
			continue
		}
		for _, e := range to {
			if e == c {
				return true
			}
			if !seen[e] {
				seen[e] = true
				next = append(next, e)
			}
		}
	}
	return false
}

// naiveTarget returns the mapping of a number by the definition.
func naiveTarget(n api.Norm, c int, compat bool) ([]int, bool) {
	if parts := hangul.Decompose(c); len(parts) > 1 {
		return parts, true
	}
	for _, m := range n.Decomp {
		if m.From == c && (compat || m.Tag == "") {
			return m.To, true
		}
	}
	return nil, false
}

// naiveFull replaces elements until none has a mapping; where elements are counted, a mark stands for each empty mapping, and far beyond the limit counting ends.
func naiveFull(n api.Norm, text []int, compat, counting bool) []int {
	for i := 0; i < len(text) && (!counting || len(text) < 9*api.MaxExpand); {
		to, ok := naiveTarget(n, text[i], compat)
		if !ok {
			i++
			continue
		}
		if len(to) == 0 && counting {
			to = []int{-1}
		}
		text = slices.Concat(text[:i], to, text[i+1:])
	}
	return text
}

// naiveErrno returns the error of Check of data whose parts are valid, by the definition.
func naiveErrno(n api.Norm) api.Errno {
	has := func(wrong func(m api.Mapping) bool) bool { return slices.ContainsFunc(n.Decomp, wrong) }
	switch {
	case has(func(m api.Mapping) bool {
		return has(func(other api.Mapping) bool { return m.From == other.From && m.Tag != other.Tag })
	}):
		return api.ErrTwice
	case has(func(m api.Mapping) bool { return m.Tag == "" && len(m.To) != 1 && len(m.To) != 2 }):
		return api.ErrKind
	case has(func(m api.Mapping) bool {
		return hangul.Kind(m.From) != 0 || m.Tag != "" && ordering.Class(n.Classes, m.From) != 0
	}):
		return api.ErrData
	case has(func(m api.Mapping) bool { return reaches(n, m.From) }):
		return api.ErrCycle
	case has(func(m api.Mapping) bool {
		return len(naiveFull(n, []int{m.From}, true, true)) > api.MaxExpand || len(naiveFull(n, []int{m.From}, false, true)) > api.MaxExpand
	}):
		return api.ErrLimit
	}
	return api.OK
}

// randomNorm returns data whose parts are valid, over few code points, so that mappings often lead to others.
func randomNorm(r *rand.Rand) api.Norm {
	n := api.Norm{Classes: []api.Span{{Lo: 0x30, Hi: 0x31, Value: 9}, {Lo: 0x32, Hi: 0x32, Value: 5 + 15*r.Intn(2)}, {Lo: 0x35, Hi: 0x35, Value: 7}}}
	longest, reach, backwards := 1+r.Intn(8), 3+13*r.Intn(2), r.Intn(4) == 0
	for c := 0x20; c < 0x40; c++ {
		if r.Intn(2) == 0 {
			continue
		}
		m := api.Mapping{From: c, To: make([]int, 1+r.Intn(2))}
		if r.Intn(2) == 0 && (c < 0x30 || c > 0x35 || r.Intn(20) == 0) {
			m = api.Mapping{From: c, To: make([]int, r.Intn(longest)), Tag: "x"}
		}
		for i := range m.To {
			m.To[i] = c + 1 + r.Intn(reach)
			if backwards && r.Intn(8) == 0 {
				m.To[i] = c - r.Intn(0x20)
			}
			if r.Intn(20) == 0 {
				m.To[i] = []int{0xAC00, 0xAC01, 0x1100}[r.Intn(3)]
			}
		}
		n.Decomp = append(n.Decomp, m)
		if r.Intn(200) == 0 {
			n.Decomp = append(n.Decomp, api.Mapping{From: c, To: []int{1}, Tag: "y"})
		}
	}
	return n
}

func TestCheckAgreesWithTheDefinition(t *testing.T) {
	r := rand.New(rand.NewSource(1))
	seen := map[api.Errno]int{}
	for range 5000 {
		n := randomNorm(r)
		want := naiveErrno(n)
		seen[want]++
		if errno := decompose.Check(n); errno != want {
			t.Fatal(n, errno, want)
		}
	}
	for _, errno := range []api.Errno{api.OK, api.ErrTwice, api.ErrData, api.ErrCycle, api.ErrLimit} {
		if seen[errno] < 30 {
			t.Error(errno, seen)
		}
	}
}

func TestLongChains(t *testing.T) {
	const furthest = 0x30000
	var l []api.Mapping
	for c := range 0x1000 {
		l = append(l, api.Mapping{From: c, To: []int{c + 1}})
	}
	for c := 0xE000; c < furthest; c++ {
		l = append(l, api.Mapping{From: c, To: []int{c + 1}, Tag: "x"})
	}
	n := api.Norm{Decomp: l}
	if errno := decompose.Check(n); errno != api.OK {
		t.Error(errno)
	}
	if got := decompose.Char(n, 0xE000, true); !slices.Equal(got, []int{furthest}) {
		t.Error(got)
	}
	if got := decompose.Text(n, []int{0, 0xE000, furthest}, false); !slices.Equal(got, []int{0x1000, 0xE000, furthest}) {
		t.Error(got)
	}
	n.Decomp = append(l, api.Mapping{From: furthest, To: []int{0xE000}, Tag: "x"})
	if errno := decompose.Check(n); errno != api.ErrCycle {
		t.Error(errno)
	}
}

// P21.2

func TestOnceAndChar(t *testing.T) {
	for _, c := range []struct {
		c          int
		compat, ok bool
		once, char []int
	}{
		{0x1EA5, false, true, []int{0xE2, 0x301}, []int{0x61, 0x302, 0x301}},
		{0x1EA5, true, true, []int{0xE2, 0x301}, []int{0x61, 0x302, 0x301}},
		{0xE2, false, true, []int{0x61, 0x302}, []int{0x61, 0x302}},
		{0x340, false, true, []int{0x301}, []int{0x301}},
		{0x212B, false, true, []int{0xC5}, []int{0xC5}},
		{0xFB01, false, false, nil, []int{0xFB01}},
		{0xFB01, true, true, []int{0x66, 0x69}, []int{0x66, 0x69}},
		{0xA0, true, true, nil, nil},
		{0xA0, false, false, nil, []int{0xA0}},
		{0x3131, true, true, []int{0xAC01, 0xA0, 0x1EA5}, []int{0x1100, 0x1161, 0x11A8, 0x61, 0x302, 0x301}},
		{0xAC00, false, true, []int{0x1100, 0x1161}, []int{0x1100, 0x1161}},
		{0xAC01, true, true, []int{0x1100, 0x1161, 0x11A8}, []int{0x1100, 0x1161, 0x11A8}},
		{0xD7A3, false, true, []int{0x1112, 0x1175, 0x11C2}, []int{0x1112, 0x1175, 0x11C2}},
		{0xABFF, false, false, nil, []int{0xABFF}},
		{0xD7A4, true, false, nil, []int{0xD7A4}},
		{0x1100, true, false, nil, []int{0x1100}},
		{0x61, true, false, nil, []int{0x61}},
		{0x301, false, false, nil, []int{0x301}},
		{-1, true, false, nil, []int{-1}},
		{last + 1, false, false, nil, []int{last + 1}},
		{math.MinInt, true, false, nil, []int{math.MinInt}},
		{math.MaxInt, true, false, nil, []int{math.MaxInt}},
	} {
		if once, ok := decompose.Once(usual(), c.c, c.compat); !slices.Equal(once, c.once) || ok != c.ok {
			t.Errorf("Once(%X, %v) = %X, %v", c.c, c.compat, once, ok)
		}
		if char := decompose.Char(usual(), c.c, c.compat); !slices.Equal(char, c.char) {
			t.Errorf("Char(%X, %v) = %X", c.c, c.compat, char)
		}
	}
}

func TestText(t *testing.T) {
	for _, c := range []struct{ text, canonical, compat []int }{
		{nil, nil, nil},
		{[]int{0x61, 0x62}, []int{0x61, 0x62}, []int{0x61, 0x62}},
		{[]int{0x1EA5, 0x323}, []int{0x61, 0x323, 0x302, 0x301}, []int{0x61, 0x323, 0x302, 0x301}},
		{[]int{0x61, 0x301, 0x323}, []int{0x61, 0x323, 0x301}, []int{0x61, 0x323, 0x301}},
		{[]int{0x340, 0x302, 0x323}, []int{0x323, 0x301, 0x302}, []int{0x323, 0x301, 0x302}},
		{[]int{0x301, 0xA0, 0x323}, []int{0x301, 0xA0, 0x323}, []int{0x323, 0x301}},
		{[]int{-1, 0xBD, math.MaxInt}, []int{-1, 0xBD, math.MaxInt}, []int{-1, 0x31, 0x2044, 0x32, math.MaxInt}},
		{[]int{0xAC01, 0x323}, []int{0x1100, 0x1161, 0x11A8, 0x323}, []int{0x1100, 0x1161, 0x11A8, 0x323}},
		{[]int{0x3131, 0x323}, []int{0x3131, 0x323}, []int{0x1100, 0x1161, 0x11A8, 0x61, 0x323, 0x302, 0x301}},
	} {
		given := slices.Clone(c.text)
		if got := decompose.Text(usual(), c.text, false); !slices.Equal(got, c.canonical) {
			t.Errorf("%X: %X", c.text, got)
		}
		if got := decompose.Text(usual(), c.text, true); !slices.Equal(got, c.compat) || !slices.Equal(c.text, given) {
			t.Errorf("%X: %X", c.text, got)
		}
	}
}

func TestChanged(t *testing.T) {
	for _, c := range []struct {
		norm              api.Norm
		canonical, compat string
	}{
		{usual(), "00E2 0340 1EA5 212B AC00..D7A3", "00A0 00BD 00E2 0340 1EA5 212B 3131 AC00..D7A3 FB01"},
		{api.Norm{}, "AC00..D7A3", "AC00..D7A3"},
		{with(api.Mapping{From: 0xABFF, To: []int{1}}, api.Mapping{From: 0xD7A4, To: []int{1}, Tag: "x"}), "ABFF..D7A3", "ABFF..D7A4"},
		{with(api.Mapping{From: 0x61, To: []int{0x61}}), "AC00..D7A3", "AC00..D7A3"},
	} {
		for compat, want := range map[bool]string{false: c.canonical, true: c.compat} {
			if got := decompose.Changed(c.norm, compat); cpset.Text(got) != want || !cpset.Valid(got) {
				t.Error(c.norm, compat, cpset.Text(got))
			}
		}
	}
}
