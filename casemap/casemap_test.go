package casemap_test

import (
	"math"
	"reflect"
	"slices"
	"testing"

	"unicodetext/api"
	"unicodetext/casemap"
)

// set returns the set of some code points, which ascend and do not touch.
func set(codes ...int) api.Set {
	var s api.Set
	for _, c := range codes {
		s.Ranges = append(s.Ranges, api.Range{Lo: c, Hi: c})
	}
	return s
}

// usual returns data with the letters a to z, sharp s, a ligature, and sigma. The apostrophe is in Ignorable, the point in Ignorable and in Cased.
func usual() api.Case {
	var lower, upper, title []api.Mapping
	for c := 0x41; c <= 0x5A; c++ {
		lower = append(lower, api.Mapping{From: c, To: []int{c + 32}})
		upper = append(upper, api.Mapping{From: c + 32, To: []int{c}})
		title = append(title, api.Mapping{From: c + 32, To: []int{c}})
	}
	return api.Case{
		Lower: append(lower, api.Mapping{From: 0x1C4, To: []int{0x1C6}}, api.Mapping{From: 0x391, To: []int{0x3B1}}, api.Mapping{From: 0x3A3, To: []int{0x3C3}}, api.Mapping{From: 0x3A3, To: []int{0x3C2}, Tag: "final"}, api.Mapping{From: 0x600, To: []int{0x601, 0x602}, Tag: "final"}, api.Mapping{From: 0x700}),
		Upper: append(upper, api.Mapping{From: 0xDF, To: []int{0x53, 0x53}}, api.Mapping{From: 0x1C6, To: []int{0x1C4}}, api.Mapping{From: 0x3B1, To: []int{0x391}}, api.Mapping{From: 0x700}),
		Title: append(title, api.Mapping{From: 0xDF, To: []int{0x53, 0x73}}, api.Mapping{From: 0x1C4, To: []int{0x1C5}}, api.Mapping{From: 0x1C6, To: []int{0x1C5}}),
		Fold:  []api.Mapping{{From: 0x41, To: []int{0x61}}},
		Cased: api.Set{Ranges: []api.Range{
			{Lo: 0x2E, Hi: 0x2E}, {Lo: 0x41, Hi: 0x5A}, {Lo: 0x61, Hi: 0x7A}, {Lo: 0xDF, Hi: 0xDF}, {Lo: 0x1C4, Hi: 0x1C6}, {Lo: 0x391, Hi: 0x3C9},
		}},
		Ignorable: set(0x27, 0x2E),
	}
}

// A wrongCase is data with an error.
type wrongCase struct {
	errno api.Errno
	data  api.Case
}

var (
	outside   = []api.Mapping{{From: -1}}
	long      = []api.Mapping{{From: 0x41, To: make([]int, api.MaxExpand+1)}}
	badName   = []api.Mapping{{From: 0x41, Tag: "a-b"}}
	twice     = []api.Mapping{{From: 0x41, Tag: "final"}, {From: 0x41, Tag: "final"}}
	unordered = []api.Mapping{{From: 0x42}, {From: 0x41}}
	final     = []api.Mapping{{From: 0x41, To: []int{0x61}, Tag: "final"}}
	otherTag  = []api.Mapping{{From: 0x41, To: []int{0x61}, Tag: "Final"}}
	tagged    = []api.Mapping{{From: 0x41, To: []int{0x61}}, {From: 0x41, To: []int{0x62}, Tag: "finals"}}
	badSet    = api.Set{Ranges: []api.Range{{Lo: 0x41, Hi: 0x42}, {Lo: 0x43, Hi: 0x43}}}
)

var wrongCases = []wrongCase{
	{api.ErrRange, api.Case{Lower: outside, Upper: long, Title: badName, Fold: twice, Cased: badSet}},
	{api.ErrSize, api.Case{Lower: long, Upper: outside}},
	{api.ErrName, api.Case{Lower: badName, Upper: outside}},
	{api.ErrTwice, api.Case{Lower: twice, Upper: outside}},
	{api.ErrOrder, api.Case{Lower: unordered, Upper: outside}},
	{api.ErrSize, api.Case{Lower: otherTag, Upper: long, Title: outside}},
	{api.ErrTwice, api.Case{Upper: twice, Title: outside, Cased: badSet}},
	{api.ErrOrder, api.Case{Upper: final, Title: unordered, Fold: outside}},
	{api.ErrRange, api.Case{Lower: tagged, Title: outside, Fold: long}},
	{api.ErrRange, api.Case{Upper: tagged, Fold: outside, Ignorable: badSet}},
	{api.ErrName, api.Case{Lower: otherTag, Cased: badSet}},
	{api.ErrName, api.Case{Lower: tagged}},
	{api.ErrName, api.Case{Lower: final, Upper: final}},
	{api.ErrName, api.Case{Title: final, Ignorable: badSet}},
	{api.ErrName, api.Case{Fold: final}},
	{api.ErrName, api.Case{Fold: tagged}},
	{api.ErrData, api.Case{Lower: final, Cased: badSet}},
	{api.ErrData, api.Case{Ignorable: badSet}},
	{api.ErrData, api.Case{Cased: api.Set{Ranges: []api.Range{{Lo: 0, Hi: api.MaxCode + 1}}}}},
}

// P37.1

func TestCheck(t *testing.T) {
	for _, c := range []api.Case{{}, usual(), {Lower: final}, {Lower: []api.Mapping{{From: 0x41}, {From: 0x41, Tag: "final"}}}} {
		if errno := casemap.Check(c); errno != api.OK {
			t.Error(c, errno)
		}
	}
	for i, w := range wrongCases {
		if errno := casemap.Check(w.data); errno != w.errno {
			t.Error(i, errno)
		}
	}
}

func TestDataThatIsNotValidCountsAsNone(t *testing.T) {
	text := []int{0x2E, 0x61, 0x41, 0x42, 0x43, -1}
	for i, w := range wrongCases {
		c := w.data
		if len(c.Cased.Ranges) == 0 {
			c.Cased = set(0x41, 0x43)
		}
		for _, l := range []*[]api.Mapping{&c.Lower, &c.Upper, &c.Title} {
			if len(*l) == 0 {
				*l = []api.Mapping{{From: 0x41, To: []int{0x61}}, {From: 0x43, To: []int{0x63}}}
			}
		}
		if casemap.Check(c) == api.OK {
			t.Fatal(i)
		}
		for name, got := range map[string][]int{"Lower": casemap.Lower(c, text), "Upper": casemap.Upper(c, text), "Title": casemap.Title(c, text, []api.Range{{Lo: 0, Hi: 6}})} {
			if !slices.Equal(got, text) {
				t.Errorf("%d: %s: %X", i, name, got)
			}
		}
		for at, code := range text {
			if casemap.Final(c, text, at) {
				t.Error(i, at)
			}
			if lower, upper, title := casemap.Simple(c, code); lower != code || upper != code || title != code {
				t.Error(i, code, lower, upper, title)
			}
		}
	}
}

// P37.2

func TestLowerAndUpper(t *testing.T) {
	for _, c := range []struct{ text, lower, upper []int }{
		{nil, nil, nil},
		{[]int{0x41, 0x62, 0x20}, []int{0x61, 0x62, 0x20}, []int{0x41, 0x42, 0x20}},
		{[]int{0x391, 0x3A3}, []int{0x3B1, 0x3C2}, []int{0x391, 0x3A3}},
		{[]int{0x3A3}, []int{0x3C3}, []int{0x3A3}},
		{[]int{0x391, 0x3A3, 0x391}, []int{0x3B1, 0x3C3, 0x3B1}, []int{0x391, 0x3A3, 0x391}},
		{[]int{0xDF, 0x1C5, 0x1C6, 0x1C4}, []int{0xDF, 0x1C5, 0x1C6, 0x1C6}, []int{0x53, 0x53, 0x1C5, 0x1C4, 0x1C4}},
		{[]int{-1, 0x41, api.MaxCode + 1, 0x61, math.MinInt, math.MaxInt}, []int{-1, 0x61, api.MaxCode + 1, 0x61, math.MinInt, math.MaxInt}, []int{-1, 0x41, api.MaxCode + 1, 0x41, math.MinInt, math.MaxInt}},
		{[]int{0x600}, []int{0x600}, []int{0x600}},
		{[]int{0x61, 0x600, 0x20}, []int{0x61, 0x601, 0x602, 0x20}, []int{0x41, 0x600, 0x20}},
		{[]int{0x61, 0x700, 0x41}, []int{0x61, 0x61}, []int{0x41, 0x41}},
	} {
		given := slices.Clone(c.text)
		if got := casemap.Lower(usual(), c.text); !slices.Equal(got, c.lower) {
			t.Errorf("Lower(%X) = %X", c.text, got)
		}
		if got := casemap.Upper(usual(), c.text); !slices.Equal(got, c.upper) || !slices.Equal(c.text, given) {
			t.Errorf("Upper(%X) = %X", c.text, got)
		}
	}
}

func TestFinal(t *testing.T) {
	for _, c := range []struct {
		text []int
		at   int
		want bool
	}{
		{[]int{0x391, 0x3A3}, 1, true},
		{[]int{0x391, 0x3A3}, 0, false},
		{[]int{0x3A3}, 0, false},
		{[]int{0x391, 0x3A3, 0x20}, 1, true},
		{[]int{0x391, 0x3A3, 0x391}, 1, false},
		{[]int{0x20, 0x3A3, 0x20}, 1, false},
		{[]int{0x391, 0x20, 0x3A3}, 2, false},
		{[]int{0x391, 0x27, 0x27, 0x3A3, 0x27}, 3, true},
		{[]int{0x391, 0x3A3, 0x27, 0x27, 0x61}, 1, false},
		{[]int{0x391, 0x3A3, 0x27, 0x20, 0x61}, 1, true},
		{[]int{0x2E, 0x3A3}, 1, false}, // what is in both sets is passed over
		{[]int{0x61, 0x2E, 0x3A3, 0x2E}, 2, true},
		{[]int{0x61, 0x3A3, 0x2E, 0x61}, 1, false},
		{[]int{0x27, 0x3A3}, 1, false},
		{[]int{0x61, 0x20}, 1, true}, // the element itself need not be in a set
		{[]int{0x61, -1}, 1, true},
		{[]int{0x61, 0x27, 0x20}, 1, true},
		{[]int{0x61, 0x2E}, 1, true},
		{[]int{-1, 0x61}, 1, false},
		{[]int{0x61, -1, 0x62}, 2, false},
		{[]int{0x61, 0x62, math.MaxInt, 0x63}, 1, true},
		{[]int{0x61, 0x62}, 2, false},
		{[]int{0x61, 0x62}, -1, false},
		{nil, 0, false},
		{[]int{0x61, 0x62}, math.MaxInt, false},
		{[]int{0x61, 0x62}, math.MinInt, false},
	} {
		if got := casemap.Final(usual(), c.text, c.at); got != c.want {
			t.Errorf("Final(%X, %d) = %v", c.text, c.at, got)
		}
	}
}

// P37.3

func parts(numbers ...int) []api.Range {
	var l []api.Range
	for i := 0; i < len(numbers); i += 2 {
		l = append(l, api.Range{Lo: numbers[i], Hi: numbers[i+1]})
	}
	return l
}

func TestTitle(t *testing.T) {
	for _, c := range []struct {
		text  []int
		parts []api.Range
		want  []int
	}{
		{nil, nil, nil},
		{nil, parts(0, 0, 0, 0), nil},
		{[]int{0x61, 0x42, 0x43}, parts(0, 3), []int{0x41, 0x62, 0x63}},
		{[]int{0x61, 0x42, 0x43}, nil, []int{0x61, 0x42, 0x43}},
		{[]int{0x61, 0x42, 0x43}, parts(1, 3), []int{0x61, 0x42, 0x63}},
		{[]int{0x61, 0x42, 0x43}, parts(0, 1, 1, 2, 2, 3), []int{0x41, 0x42, 0x43}},
		{[]int{0x61, 0x42, 0x43}, parts(0, 0, 0, 2, 2, 2, 3, 3), []int{0x41, 0x62, 0x43}},
		{[]int{0x20, 0x30, 0x61, 0x42, 0x20, 0x43}, parts(0, 6), []int{0x20, 0x30, 0x41, 0x62, 0x20, 0x63}},
		{[]int{0x27, 0xDF, 0xDF}, parts(0, 3), []int{0x27, 0x53, 0x73, 0xDF}},
		{[]int{0x1C4, 0x1C4}, parts(0, 2), []int{0x1C5, 0x1C6}},
		{[]int{0x600, 0x700, 0x61}, parts(0, 3), []int{0x600, 0x700, 0x41}}, // in front of the first element in Cased nothing changes
		{[]int{0x391, 0x3A3, 0x20, 0x3A3}, parts(0, 3, 3, 4), []int{0x391, 0x3C2, 0x20, 0x3A3}},
		{[]int{0x391, 0x3A3, 0x391}, parts(0, 2), []int{0x391, 0x3C3, 0x391}}, // final in the whole sequence
		{[]int{0x61, 0x2E, 0x3A3}, parts(1, 3), []int{0x61, 0x2E, 0x3C2}},
		{[]int{0x30, 0x31, 0x20}, parts(0, 2, 2, 3), []int{0x30, 0x31, 0x20}},
	} {
		given, givenParts := slices.Clone(c.text), slices.Clone(c.parts)
		if got := casemap.Title(usual(), c.text, c.parts); !slices.Equal(got, c.want) {
			t.Errorf("Title(%X, %v) = %X", c.text, c.parts, got)
		}
		if !slices.Equal(c.text, given) || !slices.Equal(c.parts, givenParts) {
			t.Errorf("%X, %v have changed", given, givenParts)
		}
	}
}

func TestTitleOfOtherParts(t *testing.T) {
	text := []int{0x61, 0x62, 0x63, 0x64}
	for _, other := range [][]api.Range{
		parts(-1, 2), parts(0, 5), parts(3, 2), parts(5, 5), parts(0, 2, 1, 3), parts(2, 4, 0, 1), parts(0, 1, 1, 0), parts(0, 2, 2, 5),
		parts(math.MinInt, math.MaxInt), parts(math.MaxInt, math.MinInt), parts(0, 1, -1, 3), parts(4, 5), parts(2, 3, 2, 3), parts(2, 2, 1, 1),
	} {
		if got := casemap.Title(usual(), text, other); !slices.Equal(got, text) {
			t.Errorf("Title(%v) = %X", other, got)
		}
	}
}

// P37.4

func TestSimple(t *testing.T) {
	for _, c := range []struct{ code, lower, upper, title int }{
		{0x41, 0x61, 0x41, 0x41},
		{0x61, 0x61, 0x41, 0x41},
		{0x1C4, 0x1C6, 0x1C4, 0x1C5},
		{0x1C6, 0x1C6, 0x1C4, 0x1C5},
		{0x3A3, 0x3C3, 0x3A3, 0x3A3}, // not that with a tag
		{0xDF, 0xDF, 0xDF, 0xDF},
		{0x600, 0x600, 0x600, 0x600},
		{0x700, 0x700, 0x700, 0x700},
		{0x20, 0x20, 0x20, 0x20},
		{-1, -1, -1, -1},
		{math.MaxInt, math.MaxInt, math.MaxInt, math.MaxInt},
		{math.MinInt, math.MinInt, math.MinInt, math.MinInt},
	} {
		if lower, upper, title := casemap.Simple(usual(), c.code); lower != c.lower || upper != c.upper || title != c.title {
			t.Errorf("Simple(%X) = %X, %X, %X", c.code, lower, upper, title)
		}
	}
}

func TestResultsShareNoMemory(t *testing.T) {
	c := usual()
	for _, code := range []int{0x41, 0x61, 0x391, 0xDF, 0x20} {
		text := []int{code}
		clear(casemap.Lower(c, text))
		clear(casemap.Upper(c, text))
		clear(casemap.Title(c, text, parts(0, 1)))
		clear(casemap.Title(c, text, parts(0, 2)))
		clear(casemap.Title(api.Case{}, text, nil))
		if text[0] != code {
			t.Errorf("%X has changed", code)
		}
	}
	if !reflect.DeepEqual(c, usual()) {
		t.Error("the data has changed")
	}
}
