package cpset_test

import (
	"math"
	"math/rand"
	"slices"
	"strings"
	"testing"

	"unicodetext/api"
	"unicodetext/cpset"
)

const last = api.MaxCode

// set returns a set as it is, valid or not, with ranges given by their ends.
func set(ends ...int) api.Set {
	var s api.Set
	for i := 0; i < len(ends); i += 2 {
		s.Ranges = append(s.Ranges, api.Range{Lo: ends[i], Hi: ends[i+1]})
	}
	return s
}

func same(a, b api.Set) bool {
	return slices.Equal(a.Ranges, b.Ranges)
}

// invalid holds pairs of a set that is not valid and the valid set that it counts as.
var invalid = []struct{ given, counts api.Set }{
	{set(3, 2), set()},
	{set(5, 7, 8, 8, 3, 2), set(5, 8)},
	{set(5, 7, 8, 8), set(5, 8)},
	{set(5, 7, 7, 9), set(5, 9)},
	{set(5, 7, 5, 7), set(5, 7)},
	{set(5, 9, 6, 7), set(5, 9)},
	{set(10, 12, 5, 7), set(5, 7, 10, 12)},
	{set(10, 12, 1, 1, 5, 7, 2, 3), set(1, 3, 5, 7, 10, 12)},
	{set(1, 100, 2, 3, 5, 6), set(1, 100)},
	{set(-1, 0), set(0, 0)},
	{set(-5, -1), set()},
	{set(-5, 3), set(0, 3)},
	{set(last, last+1), set(last, last)},
	{set(last+1, last+5), set()},
	{set(math.MinInt, math.MaxInt), set(0, last)},
	{set(math.MinInt, -1, last+1, math.MaxInt), set()},
	{set(math.MaxInt, math.MinInt), set()},
	{set(math.MinInt, 5, 3, math.MaxInt), set(0, last)},
	{set(0, 0, 4, 4, 2, 2, 1, 1), set(0, 2, 4, 4)},
	{set(7, 7, 9, 8), set(7, 7)},
	{set(last-1, math.MaxInt, 0, last-2), set(0, last)},
}

var valid = []api.Set{
	set(),
	{Ranges: []api.Range{}},
	set(0, 0),
	set(0, last),
	set(last, last),
	set(5, 8),
	set(0, 0, 2, 2, 4, 4),
	set(0, 1, 3, last),
	set(0xD800, 0xDFFF),
	set(0x41, 0x5A, 0x61, 0x61),
}

// P2.1

func TestMakeAndValid(t *testing.T) {
	for _, c := range invalid {
		if cpset.Valid(c.given) {
			t.Errorf("%v counts as valid", c.given)
		}
		if got := cpset.Make(c.given.Ranges); !same(got, c.counts) {
			t.Errorf("Make(%v) = %v, not %v", c.given, got, c.counts)
		}
	}
	for _, s := range valid {
		if !cpset.Valid(s) {
			t.Errorf("%v does not count as valid", s)
		}
		if got := cpset.Make(s.Ranges); !same(got, s) {
			t.Errorf("Make(%v) = %v", s, got)
		}
	}
}

func TestHas(t *testing.T) {
	for _, c := range []struct {
		s    api.Set
		c    int
		want bool
	}{
		{set(), 0, false},
		{set(5, 8), 4, false},
		{set(5, 8), 5, true},
		{set(5, 8), 6, true},
		{set(5, 8), 8, true},
		{set(5, 8), 9, false},
		{set(0, 0, 2, 2), 1, false},
		{set(0, last), 0, true},
		{set(0, last), 0xD800, true},
		{set(0, last), last, true},
		{set(0, last), last + 1, false},
		{set(0, last), -1, false},
		{set(math.MinInt, math.MaxInt), -1, false},
		{set(math.MinInt, math.MaxInt), last + 1, false},
		{set(math.MinInt, math.MaxInt), last, true},
		{set(math.MinInt, math.MaxInt), math.MaxInt, false},
		{set(math.MinInt, math.MaxInt), math.MinInt, false},
		{set(8, 5), 6, false},
		{set(10, 12, 5, 8), 6, true},
		{set(10, 12, 5, 8), 9, false},
	} {
		if cpset.Has(c.s, c.c) != c.want {
			t.Errorf("Has(%v, %d) is not %t", c.s, c.c, c.want)
		}
	}
}

// probes are the numbers at which sets of the random tests are looked at: all of their ends are near them.
func probes() []int {
	var l []int
	for c := -3; c < 50; c++ {
		l = append(l, c, last-c)
	}
	return l
}

// random returns a set of a few ranges of any form, near both ends of the code points.
func random(r *rand.Rand) api.Set {
	var s api.Set
	for range r.Intn(6) {
		lo := r.Intn(38) - 2
		hi := lo + r.Intn(9) - 2
		switch r.Intn(8) {
		case 0:
			lo, hi = last-hi, last-lo
		case 1:
			hi = last - hi
		}
		s.Ranges = append(s.Ranges, api.Range{Lo: lo, Hi: hi})
	}
	return s
}

// contains says by the definition whether c is an element of s.
func contains(s api.Set, c int) bool {
	for _, r := range s.Ranges {
		if 0 <= c && c <= last && r.Lo <= c && c <= r.Hi {
			return true
		}
	}
	return false
}

// wellFormed says by the definition whether a set is valid.
func wellFormed(s api.Set) bool {
	before := -2
	for _, r := range s.Ranges {
		if r.Lo < 0 || r.Hi > last || r.Lo > r.Hi || r.Lo < before+2 {
			return false
		}
		before = r.Hi
	}
	return true
}

func TestRandomSetsAgreeWithTheDefinitions(t *testing.T) {
	r := rand.New(rand.NewSource(1))
	all := probes()
	for range 3000 {
		a := random(r)
		made := cpset.Make(a.Ranges)
		if !wellFormed(made) || !cpset.Valid(made) || cpset.Valid(a) != wellFormed(a) {
			t.Fatal(a, made, cpset.Valid(a))
		}
		for _, c := range all {
			if cpset.Has(a, c) != contains(a, c) || contains(made, c) != contains(a, c) {
				t.Fatal(a, made, c)
			}
		}
	}
}

// P2.2

func TestOperations(t *testing.T) {
	for _, c := range []struct{ a, b, or, and, minus api.Set }{
		{set(), set(), set(), set(), set()},
		{set(1, 5), set(), set(1, 5), set(), set(1, 5)},
		{set(), set(1, 5), set(1, 5), set(), set()},
		{set(1, 5), set(6, 9), set(1, 9), set(), set(1, 5)},
		{set(1, 5), set(7, 9), set(1, 5, 7, 9), set(), set(1, 5)},
		{set(1, 5), set(5, 9), set(1, 9), set(5, 5), set(1, 4)},
		{set(1, 9), set(4, 4), set(1, 9), set(4, 4), set(1, 3, 5, 9)},
		{set(4, 4), set(1, 9), set(1, 9), set(4, 4), set()},
		{set(1, 3, 5, 9), set(4, 4), set(1, 9), set(), set(1, 3, 5, 9)},
		{set(0, last), set(7, 7), set(0, last), set(7, 7), set(0, 6, 8, last)},
		{set(0, last), set(0, last), set(0, last), set(0, last), set()},
		{set(9, 12, 1, 5), set(20, 3), set(1, 5, 9, 12), set(), set(1, 5, 9, 12)},
		{set(-9, 3), set(3, last+9), set(0, last), set(3, 3), set(0, 2)},
		{set(0, 0, 2, 2, 4, 4), set(1, 1, 3, 3), set(0, 4), set(), set(0, 0, 2, 2, 4, 4)},
	} {
		if or, and, minus := cpset.Or(c.a, c.b), cpset.And(c.a, c.b), cpset.Minus(c.a, c.b); !same(or, c.or) || !same(and, c.and) || !same(minus, c.minus) {
			t.Errorf("%v and %v: %v %v %v", c.a, c.b, or, and, minus)
		}
		if cpset.Subset(c.a, c.b) != (len(c.minus.Ranges) == 0) {
			t.Errorf("Subset(%v, %v) = %t", c.a, c.b, cpset.Subset(c.a, c.b))
		}
	}
}

func TestNot(t *testing.T) {
	for _, c := range []struct{ a, want api.Set }{
		{set(), set(0, last)},
		{set(0, last), set()},
		{set(math.MinInt, math.MaxInt), set()},
		{set(0, 0), set(1, last)},
		{set(last, last), set(0, last-1)},
		{set(5, 8), set(0, 4, 9, last)},
		{set(10, 12, 5, 8, 9, 9, 3, 2), set(0, 4, 13, last)},
		{set(0, 4, 9, last), set(5, 8)},
	} {
		if got := cpset.Not(c.a); !same(got, c.want) {
			t.Errorf("Not(%v) = %v", c.a, got)
		}
	}
}

func TestRandomOperationsAgreeWithTheDefinitions(t *testing.T) {
	r := rand.New(rand.NewSource(2))
	all := probes()
	for range 3000 {
		a, b := random(r), random(r)
		or, and, minus, not := cpset.Or(a, b), cpset.And(a, b), cpset.Minus(a, b), cpset.Not(a)
		if !wellFormed(or) || !wellFormed(and) || !wellFormed(minus) || !wellFormed(not) {
			t.Fatal(a, b, or, and, minus, not)
		}
		subset := true
		for _, c := range all {
			inA, inB := contains(a, c), contains(b, c)
			inAll := 0 <= c && c <= last
			subset = subset && (!inA || inB)
			if contains(or, c) != (inA || inB) || contains(and, c) != (inA && inB) || contains(minus, c) != (inA && !inB) || contains(not, c) != (inAll && !inA) {
				t.Fatal(a, b, c, or, and, minus, not)
			}
		}
		if cpset.Subset(a, b) != subset {
			t.Fatal(a, b, subset)
		}
	}
}

// P2.3

func TestCountAndNth(t *testing.T) {
	for _, c := range []struct {
		s        api.Set
		elements []int
	}{
		{set(), nil},
		{set(5, 8), []int{5, 6, 7, 8}},
		{set(5, 6, 9, 9), []int{5, 6, 9}},
		{set(9, 9, 5, 6, 6, 6, 4, 3), []int{5, 6, 9}},
		{set(-4, 1, last, last+4), []int{0, 1, last}},
	} {
		if got := cpset.Count(c.s); got != len(c.elements) {
			t.Errorf("Count(%v) = %d", c.s, got)
		}
		for i, want := range c.elements {
			if got, ok := cpset.Nth(c.s, i); got != want || !ok {
				t.Errorf("Nth(%v, %d) = %d, %t", c.s, i, got, ok)
			}
		}
		for _, i := range []int{len(c.elements), len(c.elements) + 1, -1, math.MinInt, math.MaxInt} {
			if got, ok := cpset.Nth(c.s, i); got != 0 || ok {
				t.Errorf("Nth(%v, %d) = %d, %t", c.s, i, got, ok)
			}
		}
	}
}

func TestCountAndNthOfAllCodePoints(t *testing.T) {
	for _, s := range []api.Set{set(0, last), cpset.Not(set()), set(math.MinInt, math.MaxInt, 3, 9)} {
		if got := cpset.Count(s); got != 1114112 {
			t.Errorf("Count(%v) = %d", s, got)
		}
		for _, i := range []int{0, 1, 0xD800, last} {
			if got, ok := cpset.Nth(s, i); got != i || !ok {
				t.Errorf("Nth(%v, %d) = %d, %t", s, i, got, ok)
			}
		}
		if got, ok := cpset.Nth(s, last+1); got != 0 || ok {
			t.Errorf("Nth(%v, %d) = %d, %t", s, last+1, got, ok)
		}
	}
}

// P2.4

func TestTextAndParse(t *testing.T) {
	for _, c := range []struct {
		s    api.Set
		text string
	}{
		{set(), ""},
		{set(0, 0), "0000"},
		{set(0x41, 0x5A, 0x61, 0x61), "0041..005A 0061"},
		{set(0x41, 0x42), "0041..0042"},
		{set(0x41, 0x41, 0x43, 0x43), "0041 0043"},
		{set(0xD800, 0xDFFF), "D800..DFFF"},
		{set(0, last), "0000..10FFFF"},
		{set(0xFFFF, 0x10000, last, last), "FFFF..10000 10FFFF"},
	} {
		if got := cpset.Text(c.s); got != c.text {
			t.Errorf("Text(%v) = %q", c.s, got)
		}
		if got, errno := cpset.Parse(c.text); !same(got, c.s) || errno != api.OK {
			t.Errorf("Parse(%q) = %v, %d", c.text, got, errno)
		}
	}
	for _, c := range invalid {
		if got, want := cpset.Text(c.given), cpset.Text(c.counts); got != want {
			t.Errorf("Text(%v) = %q, not %q", c.given, got, want)
		}
	}
	if got := cpset.Text(set(0x61, 0x61, 0x42, 0x5A, 0x41, 0x41, 9, 8)); got != "0041..005A 0061" {
		t.Error(got)
	}
}

func TestParseRejects(t *testing.T) {
	for _, s := range []string{
		" ", "0041 ", " 0041", "0041  0043", "0041\t0043", "0041\n", "0041,0043", "0041;",
		"0041 0042", "0041..0041", "0042..0041", "0041..0043 0044", "0041..0043 0043", "0041..0043 0042", "0041 0041",
		"0043 0041", "0061 0041..005A", "0041..0045 0042..0043",
		"..", "0041..", "..0041", "0041...0043", "0041.0043", "0041..0043..0045", "0041.. 0043", "0041 ..0043", "0041-0043",
		"41", "041", "00041", "004a", "110000", "0041..110000", "0000..10FFFF 110000", "-0041", "x", "0041..005a",
		"0041..005A 0061 ", "0041..005A 61", "\x00", "\xff", "é",
	} {
		if got, errno := cpset.Parse(s); len(got.Ranges) != 0 || errno != api.ErrSyntax {
			t.Errorf("Parse(%q) = %v, %d", s, got, errno)
		}
	}
}

func TestParseAcceptsOnlyTexts(t *testing.T) {
	parts := []string{"0041", "0042", "0043", "0045", "10FFFF", "..", " ", "041"}
	level := []string{""}
	accepted := 0
	for range 6 {
		var longer []string
		for _, s := range level {
			got, errno := cpset.Parse(s)
			if errno == api.OK {
				accepted++
				if !wellFormed(got) || cpset.Text(got) != s {
					t.Fatal(s, got)
				}
			} else if errno != api.ErrSyntax || len(got.Ranges) != 0 {
				t.Fatal(s, got, errno)
			}
			for _, p := range parts {
				longer = append(longer, s+p)
			}
		}
		level = longer
	}
	// None, one, two and three of 5 code points, of which 41 and 42, 42 and 43 touch; one range; a range and a code point; a code point and a range.
	if accepted != 1+5+(10-2)+(10-5)+10+9+5 {
		t.Error(accepted, "texts are accepted")
	}
}

func TestManyRanges(t *testing.T) {
	var s api.Set
	for c := 0; c < 200000; c += 2 {
		s.Ranges = append(s.Ranges, api.Range{Lo: c, Hi: c})
	}
	slices.Reverse(s.Ranges)
	if cpset.Valid(s) || cpset.Count(s) != 100000 || cpset.Count(cpset.Not(s)) != 1114112-100000 {
		t.Error("ranges are lost")
	}
	got, errno := cpset.Parse(cpset.Text(s))
	if errno != api.OK || !same(got, cpset.Make(s.Ranges)) {
		t.Error("a long text is not read", errno)
	}
}

// P2.5

func TestBooleanAlgebra(t *testing.T) {
	r := rand.New(rand.NewSource(3))
	or, and, not := cpset.Or, cpset.And, cpset.Not
	all := set(0, last)
	for range 1500 {
		a, b, c := random(r), random(r), random(r)
		made := cpset.Make(a.Ranges)
		laws := []bool{
			same(or(a, b), or(b, a)),
			same(and(a, b), and(b, a)),
			same(or(a, or(b, c)), or(or(a, b), c)),
			same(and(a, and(b, c)), and(and(a, b), c)),
			same(and(a, or(b, c)), or(and(a, b), and(a, c))),
			same(or(a, and(b, c)), and(or(a, b), or(a, c))),
			same(or(a, set()), made),
			same(and(a, all), made),
			same(or(a, not(a)), all),
			same(and(a, not(a)), set()),
			same(not(not(a)), made),
			same(not(or(a, b)), and(not(a), not(b))),
			same(cpset.Minus(a, b), and(a, not(b))),
			cpset.Subset(a, b) == (len(cpset.Minus(a, b).Ranges) == 0),
			cpset.Subset(and(a, b), a) && cpset.Subset(a, or(a, b)),
		}
		if i := slices.Index(laws, false); i >= 0 {
			t.Fatal("law", i, a, b, c)
		}
	}
}

func TestInverses(t *testing.T) {
	r := rand.New(rand.NewSource(4))
	for range 1500 {
		a := random(r)
		made := cpset.Make(a.Ranges)
		if got, errno := cpset.Parse(cpset.Text(a)); errno != api.OK || !same(got, made) {
			t.Fatal(a, cpset.Text(a), got, errno)
		}
		if n := cpset.Count(a); n < 200 {
			checkElements(t, a, n)
		}
	}
}

// checkElements checks that Nth of 0 up to n enumerates the elements.
func checkElements(t *testing.T, a api.Set, n int) {
	before := -1
	for i := range n {
		c, ok := cpset.Nth(a, i)
		if !ok || c <= before || !contains(a, c) {
			t.Fatal(a, i, c, ok)
		}
		before = c
	}
	count := 0
	for _, c := range probes() {
		if contains(a, c) {
			count++
		}
	}
	if count != n {
		t.Fatal(a, n, count)
	}
}

func TestArgumentsAndResultsShareNothing(t *testing.T) {
	a, b := set(10, 12, 5, 8), set(20, 30)
	for i, f := range []func() api.Set{
		func() api.Set { return cpset.Make(a.Ranges) },
		func() api.Set { return cpset.Make(b.Ranges) },
		func() api.Set { return cpset.Or(a, b) },
		func() api.Set { return cpset.Or(b, set()) },
		func() api.Set { return cpset.Or(set(), b) },
		func() api.Set { return cpset.And(b, set(0, last)) },
		func() api.Set { return cpset.Minus(b, set()) },
		func() api.Set { return cpset.Not(b) },
	} {
		got := f()
		for j := range got.Ranges {
			got.Ranges[j] = api.Range{Lo: 1, Hi: 2}
		}
		_ = append(got.Ranges, api.Range{Lo: 3, Hi: 4})
		if !same(a, set(10, 12, 5, 8)) || !same(b, set(20, 30)) {
			t.Fatal("function", i, "shares memory:", a, b)
		}
	}
	cpset.Valid(a)
	cpset.Count(a)
	cpset.Nth(a, 2)
	cpset.Subset(a, b)
	if !strings.HasPrefix(cpset.Text(a), "0005") || !same(a, set(10, 12, 5, 8)) {
		t.Error(a)
	}
}
