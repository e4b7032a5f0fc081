package streamsafe_test

import (
	"math"
	"math/rand"
	"slices"
	"testing"

	"unicodetext/api"
	"unicodetext/decompose"
	"unicodetext/ordering"
	"unicodetext/streamsafe"
)

const joiner = api.Joiner

// usual returns data in which letters decompose to marks at their beginnings, at their ends, or to nothing else.
func usual() api.Norm {
	return api.Norm{
		Classes: []api.Span{{Lo: 0x300, Hi: 0x305, Value: 230}, {Lo: 0x323, Hi: 0x323, Value: 220}, {Lo: 0x340, Hi: 0x341, Value: 230}},
		Decomp: []api.Mapping{
			{From: 0xA0, Tag: "nothing"},
			{From: 0xE2, To: []int{0x61, 0x302}},
			{From: 0xE3, To: []int{0xE2, 0x301}},
			{From: 0xE4, To: []int{0x300, 0x301, 0x61, 0x302}, Tag: "around"},
			{From: 0xE5, To: []int{0x300, 0x301, 0x302}, Tag: "marks"},
			{From: 0x340, To: []int{0x300, 0x301}},
			{From: 0x341, To: []int{0x61, 0x300}}, // has a class, and begins with a starter
		},
	}
}

// P27.1

func TestCheck(t *testing.T) {
	change := func(do func(n *api.Norm)) api.Norm {
		n := usual()
		do(&n)
		return n
	}
	for i, c := range []struct {
		n     api.Norm
		most  int
		errno api.Errno
	}{
		{usual(), 1, api.OK},
		{usual(), api.MaxExpand, api.OK},
		{api.Norm{}, 30, api.OK},
		{usual(), 0, api.ErrRange},
		{usual(), -1, api.ErrRange},
		{usual(), api.MaxExpand + 1, api.ErrRange},
		{usual(), math.MinInt, api.ErrRange},
		{change(func(n *api.Norm) { n.Classes = append(n.Classes, n.Classes[0]) }), 0, api.ErrRange},
		{change(func(n *api.Norm) { n.Classes = append(n.Classes, n.Classes[0]) }), 1, api.ErrOrder},
		{change(func(n *api.Norm) { n.Decomp[1].To = []int{0xE2} }), 1, api.ErrCycle},
		{change(func(n *api.Norm) { n.Classes = append(n.Classes, api.Span{Lo: 0x342, Hi: 0x34F, Value: 1}) }), 1, api.ErrData},
		{change(func(n *api.Norm) { n.Decomp = append(n.Decomp, api.Mapping{From: joiner, To: []int{0x61}}) }), 1, api.ErrData},
		{change(func(n *api.Norm) { n.Decomp = append(n.Decomp, api.Mapping{From: joiner, Tag: "x"}) }), 1, api.ErrData},
		{change(func(n *api.Norm) {
			n.Decomp = append(n.Decomp, api.Mapping{From: joiner}, api.Mapping{From: joiner, Tag: "x"})
		}), 1, api.ErrTwice},
		{change(func(n *api.Norm) { n.Decomp = append(n.Decomp, api.Mapping{From: 0x350, To: []int{joiner, joiner}}) }), 1, api.OK},
	} {
		if errno := streamsafe.Check(c.n, c.most); errno != c.errno {
			t.Errorf("%d: %v, not %v", i, errno, c.errno)
		}
		text := slices.Repeat([]int{0x301}, 99)
		safe := streamsafe.Text(c.n, c.most, text)
		if c.errno != api.OK && (!slices.Equal(safe, text) || !streamsafe.Is(c.n, c.most, text)) {
			t.Errorf("%d: %X", i, safe)
		}
	}
}

// P27.2

func TestText(t *testing.T) {
	for i, c := range []struct {
		most       int
		text, want []int
	}{
		{2, nil, nil},
		{2, []int{0x61}, []int{0x61}},
		{2, []int{0x61, 0x301, 0x302, 0x303, 0x304}, []int{0x61, 0x301, 0x302, joiner, 0x303, 0x304}},
		{2, []int{0x301, 0x302, 0x303, 0x323, 0x304}, []int{0x301, 0x302, joiner, 0x303, 0x323, joiner, 0x304}},
		{1, []int{0x301, 0x302, 0x303}, []int{0x301, joiner, 0x302, joiner, 0x303}},
		{3, []int{0x301, 0x302, 0x303, 0x61, 0x301}, []int{0x301, 0x302, 0x303, 0x61, 0x301}},
		{2, []int{0xE3, 0x303}, []int{0xE3, joiner, 0x303}},
		{3, []int{0xE3, 0x303}, []int{0xE3, 0x303}},
		{3, []int{0xE3, 0xE4, 0x303}, []int{0xE3, joiner, 0xE4, 0x303}}, // its marks at the end count further
		{4, []int{0xE3, 0xE4, 0x303}, []int{0xE3, 0xE4, 0x303}},
		{2, []int{0x61, 0xE5}, []int{0x61, 0xE5}}, // one element may have more, if nothing precedes it
		{2, []int{0xE2, 0xE5, 0x301}, []int{0xE2, joiner, 0xE5, joiner, 0x301}},
		{3, []int{0x340, 0xA0, 0x301, 0xA0, 0x302}, []int{0x340, 0xA0, 0x301, 0xA0, joiner, 0x302}}, // nothing does not interrupt
		{2, []int{0x301, 0x302, 0x341, 0x301, 0x302}, []int{0x301, 0x302, 0x341, 0x301, joiner, 0x302}},
		{1, []int{0x301, joiner, 0x302, joiner, joiner}, []int{0x301, joiner, 0x302, joiner, joiner}},
		{2, []int{0x301, -1, 0x302, math.MaxInt, 0x303, 0x304, 0x305}, []int{0x301, -1, 0x302, math.MaxInt, 0x303, 0x304, joiner, 0x305}},
		{2, []int{0x301, 0xAC01, 0x302}, []int{0x301, 0xAC01, 0x302}},
	} {
		given := slices.Clone(c.text)
		got := streamsafe.Text(usual(), c.most, c.text)
		if !slices.Equal(got, c.want) {
			t.Errorf("%d: %X", i, got)
		}
		if !slices.Equal(c.text, given) {
			t.Errorf("%d: the text has changed", i)
		}
		if streamsafe.Is(usual(), c.most, c.text) != slices.Equal(c.text, c.want) || !streamsafe.Is(usual(), c.most, c.want) {
			t.Errorf("%d: Is", i)
		}
	}
}

func TestTextWithoutChangesSharesNoMemory(t *testing.T) {
	for _, most := range []int{0, 2} {
		text := []int{0x61}
		clear(streamsafe.Text(usual(), most, text))
		if text[0] != 0x61 {
			t.Error(most)
		}
	}
}

func TestLongest(t *testing.T) {
	for i, c := range []struct {
		text []int
		want int
	}{
		{nil, 0}, {[]int{0x61, -1}, 0}, {[]int{0x61, 0x301}, 1}, {[]int{0xE3, 0xE5}, 5}, {[]int{0xE5, 0x61, 0x301, 0xA0, 0x302}, 3}, {[]int{0xE4, 0xE4}, 3}, {[]int{0x301, joiner, 0xE2}, 1},
	} {
		if got := streamsafe.Longest(usual(), c.text); got != c.want {
			t.Errorf("%d: %d", i, got)
		}
	}
	n := usual()
	n.Excluded.Ranges = []api.Range{{Lo: 2, Hi: 1}}
	if got := streamsafe.Longest(n, []int{0xE3, 0x301, 0x302}); got != 0 {
		t.Error(got)
	}
}

// randomNorm returns data in which the Joiner may be used.
func randomNorm(r *rand.Rand) api.Norm {
	for {
		n := api.Norm{Classes: []api.Span{{Lo: 0x30, Hi: 0x33, Value: 1}, {Lo: 0x34, Hi: 0x36, Value: 9}}}
		for c := 0x20; c < 0x36; c++ {
			if r.Intn(2) == 0 {
				continue
			}
			m := api.Mapping{From: c, Tag: "x"}
			for range r.Intn(5) {
				m.To = append(m.To, 0x24+r.Intn(0x14))
			}
			if (c >= 0x30 || r.Intn(3) == 0) && len(m.To) > 0 {
				m.To, m.Tag = m.To[:min(2, len(m.To))], ""
			}
			n.Decomp = append(n.Decomp, m)
		}
		if streamsafe.Check(n, 1) == api.OK {
			return n
		}
	}
}

// numbers returns the leading and the trailing number of an element, and whether it is open.
func numbers(n api.Norm, c int) (int, int, bool) {
	full := decompose.Char(n, c, true)
	leading, trailing := 0, 0
	for leading < len(full) && !ordering.Starter(n.Classes, full[leading]) {
		leading++
	}
	for trailing < len(full) && !ordering.Starter(n.Classes, full[len(full)-1-trailing]) {
		trailing++
	}
	return leading, trailing, leading == len(full)
}

// naiveText makes a sequence stream-safe by the definition.
func naiveText(n api.Norm, most int, text []int) []int {
	var out []int
	count := 0
	for _, c := range text {
		leading, trailing, open := numbers(n, c)
		if count > 0 && leading > 0 && count+leading > most {
			out = append(out, joiner)
			count = 0
		}
		out = append(out, c)
		if open {
			count += leading
		} else {
			count = trailing
		}
	}
	return out
}

// without returns the sequence without Joiners.
func without(text []int) []int {
	return slices.DeleteFunc(slices.Clone(text), func(c int) bool { return c == joiner })
}

// P27.3

func TestLaws(t *testing.T) {
	r := rand.New(rand.NewSource(1))
	inserted, divided := 0, 0
	for range 400 {
		n := randomNorm(r)
		for range 20 {
			most := 1 + r.Intn(6)
			text := make([]int, r.Intn(16))
			for i := range text {
				text[i] = 0x28 + r.Intn(0x10)
				if r.Intn(9) == 0 {
					text[i] = []int{joiner, -1, 0xAC00}[r.Intn(3)]
				}
			}
			safe := streamsafe.Text(n, most, text)
			if want := naiveText(n, most, text); !slices.Equal(safe, want) {
				t.Fatalf("%v: Text(%d, %X) = %X, not %X", n, most, text, safe, want)
			}
			inserted += len(safe) - len(text)
			if again := streamsafe.Text(n, most, safe); !slices.Equal(again, safe) || !streamsafe.Is(n, most, safe) {
				t.Fatalf("%v: %X: %X", n, safe, again)
			}
			if !slices.Equal(without(safe), without(text)) {
				t.Fatalf("%v: %X: %X", n, text, safe)
			}
			longest := most
			for _, c := range text {
				longest = max(longest, streamsafe.Longest(n, []int{c}))
			}
			if streamsafe.Longest(n, safe) > longest {
				t.Fatalf("%v: %d: %X: %X", n, most, text, safe)
			}
			for i, c := range text {
				if leading, _, open := numbers(n, c); open || leading > 0 {
					continue
				}
				divided++
				if both := append(streamsafe.Text(n, most, text[:i]), streamsafe.Text(n, most, text[i:])...); !slices.Equal(both, safe) {
					t.Fatalf("%v: %d: %X and %X", n, most, text[:i], text[i:])
				}
			}
		}
	}
	if inserted < 1000 || divided < 1000 {
		t.Error(inserted, divided)
	}
}
