package casemap_test

import (
	"math/rand"
	"slices"
	"testing"

	"unicodetext/api"
	"unicodetext/casemap"
	"unicodetext/cpset"
	"unicodetext/mapping"
)

// finalByDefinition reports whether an element is final, by the definition.
func finalByDefinition(c api.Case, text []int, i int) bool {
	first := func(l []int) (int, bool) {
		for _, e := range l {
			if !cpset.Has(c.Ignorable, e) {
				return e, true
			}
		}
		return 0, false
	}
	before := slices.Clone(text[:i])
	slices.Reverse(before)
	a, okBefore := first(before)
	b, okAfter := first(text[i+1:])
	return okBefore && cpset.Has(c.Cased, a) && (!okAfter || !cpset.Has(c.Cased, b))
}

// lowerByDefinition returns the lower case of an element, by the definition.
func lowerByDefinition(c api.Case, text []int, i int) []int {
	if to, ok := mapping.Get(c.Lower, text[i], "final"); ok && finalByDefinition(c, text, i) {
		return to
	}
	return mapping.Apply(c.Lower, "", text[i:i+1])
}

// titleByDefinition returns the title case of parts, by the definition.
func titleByDefinition(c api.Case, text []int, parts []api.Range) []int {
	var out []int
	for i, e := range text {
		p := slices.IndexFunc(parts, func(p api.Range) bool { return p.Lo <= i && i < p.Hi })
		if p < 0 {
			out = append(out, e)
			continue
		}
		begun := slices.ContainsFunc(text[parts[p].Lo:i], func(e int) bool { return cpset.Has(c.Cased, e) })
		switch {
		case begun:
			out = append(out, lowerByDefinition(c, text, i)...)
		case cpset.Has(c.Cased, e):
			out = append(out, mapping.Apply(c.Title, "", []int{e})...)
		default:
			out = append(out, e)
		}
	}
	return out
}

// randomCase returns valid data over few code points.
func randomCase(r *rand.Rand) api.Case {
	list := func(tags ...string) []api.Mapping {
		var l []api.Mapping
		for c := range 8 {
			for _, tag := range tags {
				if r.Intn(3) == 0 {
					l = append(l, api.Mapping{From: c, To: r.Perm(9)[:r.Intn(3)], Tag: tag})
				}
			}
		}
		return l
	}
	some := func() api.Set {
		var l []api.Range
		for c := range 8 {
			if r.Intn(3) == 0 {
				l = append(l, api.Range{Lo: c, Hi: c})
			}
		}
		return cpset.Make(l)
	}
	return api.Case{Lower: list("", "final"), Upper: list(""), Title: list(""), Cased: some(), Ignorable: some()}
}

func randomText(r *rand.Rand) []int {
	text := make([]int, r.Intn(10))
	for i := range text {
		text[i] = r.Intn(10) - 1
	}
	return text
}

// randomParts returns parts of a text of a length.
func randomParts(r *rand.Rand, length int) []api.Range {
	var l []api.Range
	for at := 0; r.Intn(5) > 0; {
		lo := at + r.Intn(min(3, length-at+1))
		at = lo + r.Intn(min(5, length-lo+1))
		l = append(l, api.Range{Lo: lo, Hi: at})
	}
	return l
}

// eachCase calls do for random data, texts, and parts.
func eachCase(seed int64, do func(c api.Case, text []int, parts []api.Range)) {
	r := rand.New(rand.NewSource(seed))
	for range 3000 {
		c := randomCase(r)
		for range 3 {
			text := randomText(r)
			do(c, text, randomParts(r, len(text)))
		}
	}
}

func TestMappingAgreesWithTheDefinition(t *testing.T) {
	finals := 0
	eachCase(1, func(c api.Case, text []int, parts []api.Range) {
		var lower []int
		for i := range text {
			want := finalByDefinition(c, text, i)
			if got := casemap.Final(c, text, i); got != want {
				t.Fatalf("%v: Final(%v, %d) = %v", c, text, i, got)
			}
			if want {
				finals++
			}
			lower = append(lower, lowerByDefinition(c, text, i)...)
		}
		if got := casemap.Lower(c, text); !slices.Equal(got, lower) {
			t.Fatalf("%v: Lower(%v) = %v, not %v", c, text, got, lower)
		}
		if got := casemap.Upper(c, text); !slices.Equal(got, mapping.Apply(c.Upper, "", text)) {
			t.Fatalf("%v: Upper(%v) = %v", c, text, got)
		}
		if got, want := casemap.Title(c, text, parts), titleByDefinition(c, text, parts); !slices.Equal(got, want) {
			t.Fatalf("%v: Title(%v, %v) = %v, not %v", c, text, parts, got, want)
		}
	})
	if finals < 1000 {
		t.Error(finals)
	}
}

// P37.5

func TestUpperAndLowerDistribute(t *testing.T) {
	eachCase(2, func(c api.Case, text []int, parts []api.Range) {
		tagless := c
		tagless.Lower = slices.DeleteFunc(slices.Clone(c.Lower), func(m api.Mapping) bool { return m.Tag != "" })
		for at := range len(text) + 1 {
			if got := append(casemap.Upper(c, text[:at]), casemap.Upper(c, text[at:])...); !slices.Equal(got, casemap.Upper(c, text)) {
				t.Fatalf("%v: Upper(%v), %d: %v", c, text, at, got)
			}
			if got := append(casemap.Lower(tagless, text[:at]), casemap.Lower(tagless, text[at:])...); !slices.Equal(got, casemap.Lower(tagless, text)) {
				t.Fatalf("%v: Lower(%v), %d: %v", tagless, text, at, got)
			}
		}
	})
}

func TestTitleWithoutCasedElements(t *testing.T) {
	eachCase(3, func(c api.Case, text []int, parts []api.Range) {
		uncased := slices.DeleteFunc(slices.Clone(text), func(e int) bool { return cpset.Has(c.Cased, e) })
		for _, p := range [][]api.Range{parts, {{Lo: 0, Hi: len(uncased)}}} {
			if got := casemap.Title(c, uncased, p); !slices.Equal(got, uncased) {
				t.Fatalf("%v: Title(%v, %v) = %v", c, uncased, p, got)
			}
		}
	})
}

// What Title puts in the place of a part is found by the length of what surrounds it, which does not change.
func TestTitleMapsEachPartByItself(t *testing.T) {
	eachCase(4, func(c api.Case, text []int, parts []api.Range) {
		var joined []int
		end := 0
		for _, p := range parts {
			alone := casemap.Title(c, text, []api.Range{p})
			joined = append(joined, text[end:p.Lo]...)
			joined = append(joined, alone[p.Lo:len(alone)-(len(text)-p.Hi)]...)
			end = p.Hi
		}
		joined = append(joined, text[end:]...)
		if got := casemap.Title(c, text, parts); !slices.Equal(got, joined) {
			t.Fatalf("%v: Title(%v, %v) = %v, not %v", c, text, parts, got, joined)
		}
	})
}

func TestLongTexts(t *testing.T) {
	text := slices.Repeat([]int{0x2E, 0x3A3, 0x27, 0x41, 0x2E, 0x2E}, 30000)
	if got := casemap.Lower(usual(), text); len(got) != len(text) || got[1] != 0x3C3 {
		t.Error(len(got))
	}
	if got := casemap.Title(usual(), text, []api.Range{{Lo: 0, Hi: len(text)}}); len(got) != len(text) || got[3] != 0x61 {
		t.Error(len(got), got[3])
	}
}
