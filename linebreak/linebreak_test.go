package linebreak_test

import (
	"math"
	"math/rand"
	"slices"
	"testing"

	"unicodetext/api"
	"unicodetext/database"
	"unicodetext/linebreak"
	"unicodetext/segment"
	"unicodetext/standard"
)

const lineFile = `@names Other Mandatory CR LF Newline Space ZeroSpace Hyphen Combining Ideograph CloseP Strange
000B..000C; Mandatory
000D; CR
000A; LF
0085; Newline
0020; Space
200B; ZeroSpace
002D; Hyphen
0300..0310; Combining
4E00..4EFF; Ideograph
0029; CloseP
0024; Strange
`

// usual returns a database with classes for lines.
func usual(t testing.TB) api.Database {
	t.Helper()
	d, name, fault := database.Parse([]api.File{{Name: "line", Text: lineFile}})
	if fault != (api.Fault{}) {
		t.Fatal(name, fault)
	}
	return d
}

// codes returns the code points of a string.
func codes(s string) []int {
	var l []int
	for _, c := range s {
		l = append(l, int(c))
	}
	return l
}

// ranges returns the ranges between neighbouring positions.
func ranges(positions ...int) []api.Range {
	var l []api.Range
	for i := 1; i < len(positions); i++ {
		l = append(l, api.Range{Lo: positions[i-1], Hi: positions[i]})
	}
	return l
}

// P34.1, P34.2

func TestText(t *testing.T) {
	const (
		k = api.Keep
		b = api.Break
		m = api.Must
	)
	for _, c := range []struct {
		text                               string
		actions, opportunities, paragraphs []int
	}{
		{"", []int{b}, nil, nil},
		{"a", []int{b, b}, nil, []int{0, 1}},
		{"a\nb", []int{b, k, m, b}, []int{2}, []int{0, 2, 3}},
		{"a  b", []int{b, k, k, b, b}, []int{3}, []int{0, 4}},
		{"a\r\n", []int{b, k, k, m}, nil, []int{0, 3}},
		{"\r\n\n\x0B", []int{k, k, m, m, m}, []int{2, 3}, []int{0, 2, 3, 4}},
		{"a-b c\u0085 d", []int{b, k, b, k, b, k, m, b, b}, []int{2, 4, 6, 7}, []int{0, 6, 8}},
		{"\u4E00\u4E01\u0301)a$$\u200B ", []int{b, b, k, k, k, k, k, k, k, b}, []int{1}, []int{0, 9}},
		{"\u200Ba\u200B b", []int{k, b, k, k, b, b}, []int{1, 4}, []int{0, 5}},
	} {
		text := codes(c.text)
		if got, errno := linebreak.Actions(usual(t), text); !slices.Equal(got, c.actions) || errno != api.OK {
			t.Errorf("Actions(%q) = %v, %v", c.text, got, errno)
		}
		if got, errno := linebreak.Opportunities(usual(t), text); !slices.Equal(got, c.opportunities) || errno != api.OK {
			t.Errorf("Opportunities(%q) = %v, %v", c.text, got, errno)
		}
		if got, errno := linebreak.Paragraphs(usual(t), text); !slices.Equal(got, ranges(c.paragraphs...)) || errno != api.OK {
			t.Errorf("Paragraphs(%q) = %v, %v", c.text, got, errno)
		}
		if !slices.Equal(text, codes(c.text)) {
			t.Errorf("%q has changed", c.text)
		}
	}
}

func TestNumbersThatAreNoCodePoints(t *testing.T) {
	text := []int{-1, math.MaxInt, 0x20, math.MinInt}
	if got, errno := linebreak.Opportunities(usual(t), text); !slices.Equal(got, []int{3}) || errno != api.OK {
		t.Error(got, errno)
	}
	if got, errno := linebreak.Visible(usual(t), text, api.Range{Lo: 1, Hi: 3}); got != (api.Range{Lo: 1, Hi: 2}) || errno != api.OK {
		t.Error(got, errno)
	}
}

func TestInvalidDatabases(t *testing.T) {
	bad := func(do func(d *api.Database)) api.Database {
		d := usual(t)
		do(&d)
		return d
	}
	text := codes("a b\n")
	for i, d := range []api.Database{
		{},
		bad(func(d *api.Database) { d.Version.Major = -1 }),
		bad(func(d *api.Database) { d.Line.Spans[0].Value = 0 }),
		bad(func(d *api.Database) { d.Width.Names = nil }),
		bad(func(d *api.Database) { d.Case.Fold = []api.Mapping{{From: 1, Tag: "-"}} }),
	} {
		if l, errno := linebreak.Actions(d, text); len(l) != 0 || errno != api.ErrData {
			t.Error(i, l, errno)
		}
		if l, errno := linebreak.Opportunities(d, text); len(l) != 0 || errno != api.ErrData {
			t.Error(i, l, errno)
		}
		if l, errno := linebreak.Paragraphs(d, text); len(l) != 0 || errno != api.ErrData {
			t.Error(i, l, errno)
		}
		for _, part := range []api.Range{{Lo: 0, Hi: 1}, {Lo: -1, Hi: 1}, {Lo: 0, Hi: 5}} {
			if r, errno := linebreak.Visible(d, text, part); r != (api.Range{}) || errno != api.ErrData {
				t.Error(i, r, errno)
			}
		}
	}
}

// P34.3

func TestVisible(t *testing.T) {
	for _, c := range []struct {
		text   string
		lo, hi int
		want   int // Hi
	}{
		{"a\nb", 0, 2, 1}, {"a\nb", 0, 3, 3}, {"a\nb", 1, 2, 1}, {"a\nb", 2, 2, 2}, {"", 0, 0, 0},
		{"ab \x0B\x0C\r\n\u0085\u200B  ", 0, 11, 2}, {"ab \x0B\x0C\r\n\u0085\u200B  ", 5, 11, 5}, {"ab \x0B\x0C\r\n\u0085\u200B  ", 0, 4, 2},
		{" a-", 0, 3, 3}, {" a\u0301", 0, 3, 3}, {"   ", 1, 3, 1}, {"a$ ", 0, 3, 2}, {"a b ", 0, 2, 1}, {"a b ", 0, 3, 3},
	} {
		got, errno := linebreak.Visible(usual(t), codes(c.text), api.Range{Lo: c.lo, Hi: c.hi})
		if got != (api.Range{Lo: c.lo, Hi: c.want}) || errno != api.OK {
			t.Errorf("Visible(%q, %d, %d) = %v, %v", c.text, c.lo, c.hi, got, errno)
		}
	}
	for _, part := range []api.Range{{Lo: -1, Hi: 2}, {Lo: 2, Hi: 1}, {Lo: 0, Hi: 5}, {Lo: 5, Hi: 5}, {Lo: math.MinInt, Hi: math.MaxInt}, {Lo: math.MaxInt, Hi: math.MinInt}, {Lo: math.MaxInt, Hi: math.MaxInt}} {
		if got, errno := linebreak.Visible(usual(t), codes("abc "), part); got != (api.Range{}) || errno != api.ErrRange {
			t.Error(part, got, errno)
		}
	}
}

// P34.4

func TestLaws(t *testing.T) {
	r := rand.New(rand.NewSource(1))
	d := usual(t)
	table := standard.Table(api.Lines)
	invisible := map[string]bool{"Space": true, "Mandatory": true, "CR": true, "LF": true, "Newline": true, "ZeroSpace": true}
	alphabet := codes("aa  \n\r\x0B\u0085\u200B-\u0301\u4E00)$")
	for range 250 {
		text := make([]int, r.Intn(12))
		for i := range text {
			text[i] = alphabet[r.Intn(len(alphabet))]
		}
		actions, _ := linebreak.Actions(d, text)
		if !slices.Equal(actions, segment.Actions(d.Line, table, text)) {
			t.Fatalf("%X: %v", text, actions)
		}
		opportunities, _ := linebreak.Opportunities(d, text)
		paragraphs, _ := linebreak.Paragraphs(d, text)
		classes := segment.Classes(d.Line, table, text)
		name := func(i int) string { return table.Classes[classes[i]] }
		for at := 1; at < len(text); at++ {
			if slices.Contains(opportunities, at) != (actions[at] != api.Keep) {
				t.Fatalf("%X: %v, %v", text, actions, opportunities)
			}
		}
		for _, at := range opportunities {
			if (name(at) == "Space" || name(at) == "ZeroSpace") && actions[at] != api.Must {
				t.Fatalf("%X: %v", text, opportunities)
			}
		}
		end := 0
		for i, p := range paragraphs {
			if p.Lo != end || p.Hi <= p.Lo || i < len(paragraphs)-1 && !slices.Contains(opportunities, p.Hi) {
				t.Fatalf("%X: %v", text, paragraphs)
			}
			end = p.Hi
		}
		if end != len(text) {
			t.Fatalf("%X: %v", text, paragraphs)
		}
		part := api.Range{Lo: r.Intn(len(text) + 1)}
		part.Hi = part.Lo + r.Intn(len(text)+1-part.Lo)
		seen, _ := linebreak.Visible(d, text, part)
		again, _ := linebreak.Visible(d, text, seen)
		if again != seen || seen.Lo != part.Lo || seen.Hi > seen.Lo && invisible[name(seen.Hi-1)] {
			t.Fatalf("%X: %v: %v: %v", text, part, seen, again)
		}
		for i := seen.Hi; i < part.Hi; i++ {
			if !invisible[name(i)] {
				t.Fatalf("%X: %v: %v", text, part, seen)
			}
		}
	}
}
