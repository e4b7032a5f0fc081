package colltable_test

import (
	"math"
	"reflect"
	"slices"
	"strings"
	"testing"

	"unicodetext/api"
	"unicodetext/colltable"
	"unicodetext/element"
)

// elements returns one element with each of the primary weights.
func elements(primaries ...int) []api.Element {
	var l []api.Element
	for _, w := range primaries {
		l = append(l, api.Element{Primary: w, Secondary: 0x20, Tertiary: 2})
	}
	return l
}

// entry returns an entry with one element for each of the primary weights.
func entry(codes []int, primaries ...int) api.Entry {
	return api.Entry{Codes: codes, Elements: elements(primaries...)}
}

// usual returns a collation with groups, contractions, expansions, and an entry without elements.
func usual() api.Collation {
	return api.Collation{
		Base: 1000, Second: 0x20, Third: 2,
		Groups: []api.Group{{Name: "low", Lo: 1, Hi: 9}, {Name: "high_1", Lo: 10, Hi: 999}},
		Entries: []api.Entry{
			entry([]int{0x00}),
			entry([]int{0x61}, 10),
			entry([]int{0x61, 0x62, 0x63}, 11),
			entry([]int{0x61, 0x301}, 12),
			entry([]int{0x61, 0x301, 0x305}, 13),
			entry([]int{0x61, 0x323}, 14),
			entry([]int{0x62}, 15, 16),
			entry([]int{0x65, 0x66}, 17),
			entry([]int{0x301}, 900),
			entry([]int{0x323}, 901),
		},
	}
}

// change returns the usual collation with a change.
func change(do func(c *api.Collation)) api.Collation {
	c := usual()
	do(&c)
	return c
}

// A checked is a collation with the error that Check returns for it.
type checked struct {
	errno     api.Errno
	collation api.Collation
}

// checks are collations with each error, also with those that are named later.
func checks() []checked {
	var l []checked
	add := func(errno api.Errno, do func(c *api.Collation)) {
		l = append(l, checked{errno, change(do)})
	}
	name := func(i int, name string) func(c *api.Collation) {
		return func(c *api.Collation) { c.Groups[i].Name = name }
	}
	both := func(l ...func(c *api.Collation)) func(c *api.Collation) {
		return func(c *api.Collation) {
			for _, do := range l {
				do(c)
			}
		}
	}
	add(api.OK, func(c *api.Collation) {})
	add(api.OK, func(c *api.Collation) { c.Base, c.Second, c.Third = 65502, 65535, 65535 })
	add(api.OK, func(c *api.Collation) { *c = api.Collation{Base: 1, Second: 1, Third: 1} })
	for _, weight := range []int{0, -1, 65503, math.MaxInt} {
		add(api.ErrRange, both(name(1, "-"), func(c *api.Collation) { c.Base = weight }))
	}
	for _, weight := range []int{0, -1, 65536, math.MinInt} {
		add(api.ErrRange, both(name(1, "-"), func(c *api.Collation) { c.Second = weight }))
		add(api.ErrRange, both(name(1, "-"), func(c *api.Collation) { c.Third = weight }))
	}
	add(api.ErrName, both(name(1, ""), func(c *api.Collation) { c.Groups[0].Lo = 0 }))
	add(api.ErrName, name(0, strings.Repeat("a", 33)))
	add(api.OK, name(0, strings.Repeat("a", 32)))
	add(api.ErrName, func(c *api.Collation) {
		c.Groups = []api.Group{{Name: "a"}, {Name: "a"}, {Name: "a b"}}
	})
	add(api.ErrTwice, both(name(0, "high_1"), func(c *api.Collation) { c.Groups[0].Lo = 0 }))
	add(api.ErrRange, both(func(c *api.Collation) { c.Groups[1].Lo = 0 }, func(c *api.Collation) { c.Groups[0].Hi = 99 }))
	add(api.ErrRange, func(c *api.Collation) { c.Groups[0].Lo = -5 })
	add(api.ErrRange, func(c *api.Collation) { c.Groups[1].Hi = 9 })
	add(api.ErrRange, func(c *api.Collation) { c.Groups[1].Hi = 1000 })
	add(api.ErrRange, func(c *api.Collation) { c.Groups[0].Hi, c.Groups[1].Hi = 5, math.MaxInt })
	add(api.ErrOrder, both(func(c *api.Collation) { c.Groups[0].Hi = 8 }, func(c *api.Collation) { c.Entries[0].Codes = nil }))
	add(api.ErrOrder, func(c *api.Collation) { c.Groups[1].Lo = 9 })
	add(api.OK, func(c *api.Collation) { c.Groups[0].Lo, c.Groups[0].Hi = 9, 9 })
	add(api.ErrOrder, func(c *api.Collation) { slices.Reverse(c.Groups) })
	add(api.ErrSize, func(c *api.Collation) { c.Entries[1].Codes = nil })
	add(api.ErrSize, func(c *api.Collation) { c.Entries[2].Codes = slices.Repeat([]int{-1}, 9) })
	add(api.OK, func(c *api.Collation) { c.Entries[2].Codes = slices.Repeat([]int{0x61}, 8) })
	add(api.ErrSize, func(c *api.Collation) { c.Entries[2].Elements = elements(slices.Repeat([]int{-1}, 17)...) })
	add(api.OK, func(c *api.Collation) { c.Entries[2].Elements = elements(slices.Repeat([]int{999}, 16)...) })
	add(api.ErrRange, func(c *api.Collation) { c.Entries[2].Codes[1] = -1; c.Entries[2].Elements[0].Secondary = 0 })
	add(api.ErrRange, func(c *api.Collation) { c.Entries[9].Codes[0] = 0x110000 })
	add(api.ErrData, func(c *api.Collation) {
		c.Entries[6].Elements[1].Secondary = 0
		c.Entries[6].Elements[0].Primary = 1000
	})
	add(api.ErrRange, func(c *api.Collation) { c.Entries[6].Elements[1].Tertiary = 65536 })
	add(api.ErrData, func(c *api.Collation) { c.Entries[6].Elements[1] = api.Element{Variable: true} })
	add(api.OK, func(c *api.Collation) { c.Entries[6].Elements[1] = api.Element{Secondary: 65535, Tertiary: 65535} })
	add(api.ErrRange, func(c *api.Collation) { c.Entries[6].Elements[1].Primary = 1000; c.Entries[6].Codes[0] = 0x60 })
	add(api.ErrOrder, func(c *api.Collation) { c.Entries[6].Codes[0] = 0x60; c.Entries[7].Codes = nil })
	add(api.ErrOrder, func(c *api.Collation) { c.Entries[3], c.Entries[4] = c.Entries[4], c.Entries[3] })
	add(api.ErrOrder, func(c *api.Collation) { c.Entries[3].Codes = c.Entries[4].Codes })
	add(api.ErrSize, func(c *api.Collation) { c.Entries[6].Codes[0] = 0x60; c.Entries[2].Codes = nil })
	return l
}

// P43.1

func TestCheck(t *testing.T) {
	for i, c := range checks() {
		if errno := colltable.Check(c.collation); errno != c.errno {
			t.Errorf("%d: %v: %v, not %v", i, c.collation, errno, c.errno)
		}
	}
}

// The greatest weights of implicit elements are permitted.
func TestGreatestBase(t *testing.T) {
	c := api.Collation{Base: 65502, Second: 1, Third: 1}
	if l := colltable.Implicit(c, api.MaxCode); len(l) != 2 || l[0].Primary != api.MaxWeight || element.Check(l[0]) != api.OK {
		t.Error(l)
	}
}

// P43.2

func TestFind(t *testing.T) {
	for _, e := range usual().Entries {
		if l, ok := colltable.Find(usual(), e.Codes); !slices.Equal(l, e.Elements) || !ok {
			t.Error(e, l, ok)
		}
	}
	for _, codes := range [][]int{nil, {0x60}, {0x61, 0x62}, {0x61, 0x301, 0x305, 0x305}, {0x65}, {-1}, {math.MaxInt}, {0x61, -1}, slices.Repeat([]int{0x61}, 99)} {
		if l, ok := colltable.Find(usual(), codes); len(l) != 0 || ok {
			t.Error(codes, l)
		}
	}
	for i, c := range checks() {
		if c.errno == api.OK {
			continue
		}
		for _, codes := range [][]int{nil, {0x61}, {0x301}, {0x61, 0x301}, {0}, {-1}} {
			if l, ok := colltable.Find(c.collation, codes); len(l) != 0 || ok {
				t.Error(i, codes, l)
			}
		}
	}
}

func TestImplicit(t *testing.T) {
	two := func(base, second, third, code int) []api.Element {
		return []api.Element{{Primary: base + code>>15, Secondary: second, Tertiary: third}, {Primary: 0x8000 + code&0x7FFF}}
	}
	for _, code := range []int{0, 1, 0x61, 0x7FFF, 0x8000, 0x8001, 0xFFFF, 0x10FFFF} {
		if l := colltable.Implicit(usual(), code); !slices.Equal(l, two(1000, 0x20, 2, code)) {
			t.Error(code, l)
		}
		if l := colltable.Implicit(api.Collation{Base: 7, Second: 8, Third: 9}, code); !slices.Equal(l, two(7, 8, 9, code)) {
			t.Error(code, l)
		}
		for i, c := range checks() {
			if c.errno == api.OK {
				continue
			}
			if l := colltable.Implicit(c.collation, code); !slices.Equal(l, two(64448, 32, 2, code)) {
				t.Error(i, code, l)
			}
		}
	}
	for _, code := range []int{-1, 0x110000, math.MinInt, math.MaxInt} {
		if l := colltable.Implicit(usual(), code); len(l) != 0 {
			t.Error(code, l)
		}
	}
}

func TestResultsShareNoMemory(t *testing.T) {
	c := usual()
	text := []int{0x61, 0x62}
	l, _ := colltable.Find(c, []int{0x61})
	clear(l)
	_, rest, found := colltable.Step(api.Norm{}, c, text)
	clear(rest)
	clear(found)
	clear(colltable.Elements(api.Norm{}, c, text))
	if !reflect.DeepEqual(c, usual()) || !slices.Equal(text, []int{0x61, 0x62}) {
		t.Error(c, text)
	}
}
