package clusters_test

import (
	"math"
	"math/rand"
	"slices"
	"strings"
	"testing"

	"unicodetext/api"
	"unicodetext/clusters"
	"unicodetext/database"
	"unicodetext/segment"
	"unicodetext/standard"
)

var kinds = []int{api.Graphemes, api.Words, api.Sentences, api.Lines}

// files name a value of each property for the code points that occur in the tests.
func files() []api.File {
	return []api.File{
		{Name: "grapheme", Text: "@names Other CR LF Control Extend Region\n000D; CR\n000A; LF\n0000; Control\n0300..0310; Extend\n1F1E6..1F1FF; Region"},
		{Name: "word", Text: "@names Other CR LF Katakana Letter Hebrew Numeric MidLetter Connector Space Extend Unknown\n000D; CR\n000A; LF\n0020; Space\n0030..0039; Numeric\n003A; MidLetter\n005F; Connector\n0061..007A; Letter\n0041; Unknown\n05D0; Hebrew\n30A0; Katakana\n0300..0310; Extend"},
		{Name: "sentence", Text: "@names Other CR LF Space Lower Upper Stop\n000D; CR\n000A; LF\n0020; Space\n0061..007A; Lower\n0041..005A; Upper\n0021; Stop"},
		{Name: "line", Text: "@names Other CR LF Space Hyphen Combining\n000D; CR\n000A; LF\n0020; Space\n002D; Hyphen\n0300..0310; Combining"},
	}
}

// usual returns a database in which each kind has its own boundaries.
func usual(t testing.TB) api.Database {
	t.Helper()
	d, name, fault := database.Parse(files())
	if fault != (api.Fault{}) {
		t.Fatal(name, fault)
	}
	return d
}

// invalid returns databases that are not valid.
func invalid(t testing.TB) []api.Database {
	bad := func(do func(d *api.Database)) api.Database {
		d := usual(t)
		do(&d)
		return d
	}
	return []api.Database{
		{},
		bad(func(d *api.Database) { d.Version.Minor = 10000 }),
		bad(func(d *api.Database) { d.Grapheme.Names = nil }),
		bad(func(d *api.Database) { d.Word.Spans[0].Value = 99 }),
		bad(func(d *api.Database) { d.Category.Names[0] = "" }),
		bad(func(d *api.Database) { d.Confusable = []api.Mapping{{From: -1}} }),
		bad(func(d *api.Database) { d.Ident.Medial.Ranges = []api.Range{{Lo: 2, Hi: 1}} }),
	}
}

// codes returns the code points of a string.
func codes(s string) []int {
	var l []int
	for _, c := range s {
		l = append(l, int(c))
	}
	return l
}

// ranges returns the ranges between neighbouring positions.
func ranges(positions ...int) []api.Range {
	var l []api.Range
	for i := 1; i < len(positions); i++ {
		l = append(l, api.Range{Lo: positions[i-1], Hi: positions[i]})
	}
	return l
}

// P33.1

func TestBoundariesAndParts(t *testing.T) {
	d := usual(t)
	text := codes("ab 1!\r\nCd\u0301 x")
	for kind, want := range map[int][]int{
		api.Graphemes: {0, 1, 2, 3, 4, 5, 7, 8, 10, 11, 12},
		api.Words:     {0, 2, 3, 4, 5, 7, 8, 10, 11, 12},
		api.Sentences: {0, 7, 12},
		api.Lines:     {0, 3, 7, 11, 12},
	} {
		l, errno := clusters.Boundaries(d, kind, text)
		if !slices.Equal(l, want) || errno != api.OK {
			t.Error(kind, l, errno)
		}
		parts, errno := clusters.Parts(d, kind, text)
		if !slices.Equal(parts, ranges(want...)) || errno != api.OK {
			t.Error(kind, parts, errno)
		}
		if l, errno := clusters.Boundaries(d, kind, nil); !slices.Equal(l, []int{0}) || errno != api.OK {
			t.Error(kind, l, errno)
		}
		if parts, errno := clusters.Parts(d, kind, nil); len(parts) != 0 || errno != api.OK {
			t.Error(kind, parts, errno)
		}
	}
}

func TestErrors(t *testing.T) {
	text := codes("ab c")
	for _, kind := range []int{0, 5, -1, math.MinInt, math.MaxInt} {
		if l, errno := clusters.Boundaries(usual(t), kind, text); len(l) != 0 || errno != api.ErrKind {
			t.Error(kind, l, errno)
		}
		if l, errno := clusters.Parts(usual(t), kind, text); len(l) != 0 || errno != api.ErrKind {
			t.Error(kind, l, errno)
		}
	}
	for i, d := range invalid(t) {
		for _, kind := range append([]int{0, 5}, kinds...) {
			if l, errno := clusters.Boundaries(d, kind, text); len(l) != 0 || errno != api.ErrData {
				t.Error(i, kind, l, errno)
			}
			if l, errno := clusters.Parts(d, kind, text); len(l) != 0 || errno != api.ErrData {
				t.Error(i, kind, l, errno)
			}
		}
		if l, errno := clusters.Truncate(d, text, 2); len(l) != 0 || errno != api.ErrData {
			t.Error(i, l, errno)
		}
		if l, errno := clusters.Reverse(d, text); len(l) != 0 || errno != api.ErrData {
			t.Error(i, l, errno)
		}
		if l, errno := clusters.Letters(d, text); len(l) != 0 || errno != api.ErrData {
			t.Error(i, l, errno)
		}
	}
}

// P33.2

func TestTruncate(t *testing.T) {
	for _, c := range []struct {
		text string
		n    int
		want string
	}{
		{"", 0, ""}, {"", 3, ""}, {"abc", 0, ""}, {"abc", -1, ""}, {"abc", math.MinInt, ""}, {"abc", 2, "ab"}, {"abc", 3, "abc"}, {"abc", math.MaxInt, "abc"},
		{"\r\na", 1, "\r\n"}, {"a\u0301\u0302b", 1, "a\u0301\u0302"}, {"\u0301b", 1, "\u0301"},
		{"\U0001F1E6\U0001F1E7\U0001F1E8", 1, "\U0001F1E6\U0001F1E7"},
	} {
		text := codes(c.text)
		got, errno := clusters.Truncate(usual(t), text, c.n)
		if !slices.Equal(got, codes(c.want)) || errno != api.OK {
			t.Errorf("%q: %d: %X", c.text, c.n, got)
		}
		clear(got)
		if !slices.Equal(text, codes(c.text)) {
			t.Errorf("%q has changed", c.text)
		}
	}
}

func TestReverse(t *testing.T) {
	for from, to := range map[string]string{
		"": "", "a": "a", "a\u0301b": "ba\u0301", "\r\na": "a\r\n", "\n\r": "\r\n", "\u0301a": "a\u0301",
		"\U0001F1E6\U0001F1E7\U0001F1E8x": "x\U0001F1E8\U0001F1E6\U0001F1E7",
	} {
		text := codes(from)
		got, errno := clusters.Reverse(usual(t), text)
		if !slices.Equal(got, codes(to)) || errno != api.OK {
			t.Errorf("%q: %X", from, got)
		}
		clear(got)
		if !slices.Equal(text, codes(from)) {
			t.Errorf("%q has changed", from)
		}
	}
	if got, _ := clusters.Reverse(usual(t), []int{-1, 0x61, 0x301, math.MaxInt, 0x302}); !slices.Equal(got, []int{math.MaxInt, 0x302, 0x61, 0x301, -1}) {
		t.Error(got)
	}
}

// P33.3

func TestLetters(t *testing.T) {
	for s, want := range map[string]string{
		"": "", "  ": "", "a": "a", "ab cd": "ab|cd", " a:b_1! \u30A0\u05D0 -": "a:b_1|\u30A0|\u05D0", "_": "", "__ _a": "_a", "A": "", "a\u0301:": "a\u0301", ":1": "1", "\u0301": "", "!\u0301a": "a",
	} {
		text := codes(s)
		l, errno := clusters.Letters(usual(t), text)
		var found []string
		for _, part := range l {
			var word strings.Builder
			for _, c := range text[part.Lo:part.Hi] {
				word.WriteRune(rune(c))
			}
			found = append(found, word.String())
		}
		if got := strings.Join(found, "|"); got != want || errno != api.OK {
			t.Errorf("%q: %q", s, got)
		}
	}
	// The class of an element whose value is no class is the first one, and that is no letter.
	d := usual(t)
	d.Word = api.Property{Names: []string{"Letter", "Letters"}, Spans: []api.Span{{Lo: 0x61, Hi: 0x62, Value: 1}}}
	if l, errno := clusters.Letters(d, []int{0x61, 0x63, -1}); !slices.Equal(l, ranges(1, 3)) || errno != api.OK {
		t.Error(l, errno)
	}
}

// propertyOf returns the property of a kind.
func propertyOf(d api.Database, kind int) api.Property {
	return map[int]api.Property{api.Graphemes: d.Grapheme, api.Words: d.Word, api.Sentences: d.Sentence, api.Lines: d.Line}[kind]
}

// counts returns how often each element occurs.
func counts(text []int) map[int]int {
	n := map[int]int{}
	for _, c := range text {
		n[c]++
	}
	return n
}

// graphemes returns the graphemes of a sequence.
func graphemes(t *testing.T, d api.Database, text []int) [][]int {
	t.Helper()
	l, errno := clusters.Parts(d, api.Graphemes, text)
	if errno != api.OK {
		t.Fatal(errno)
	}
	var all [][]int
	for _, part := range l {
		all = append(all, text[part.Lo:part.Hi])
	}
	return all
}

// P33.4, and P33.1 for all kinds

func TestLaws(t *testing.T) {
	r := rand.New(rand.NewSource(1))
	d := usual(t)
	alphabet := codes("aab \r\n\u0301\u0302\U0001F1E6\U0001F1E71:_!-A\u05D0\u30A0\x00")
	undone := 0
	for range 150 {
		text := make([]int, r.Intn(12))
		for i := range text {
			text[i] = alphabet[r.Intn(len(alphabet))]
		}
		for _, kind := range kinds {
			boundaries, _ := clusters.Boundaries(d, kind, text)
			if !slices.Equal(boundaries, segment.Boundaries(propertyOf(d, kind), standard.Table(kind), text)) {
				t.Fatal(kind, text)
			}
			parts, _ := clusters.Parts(d, kind, text)
			end := 0
			for _, part := range parts {
				if part.Lo != end || part.Hi <= part.Lo {
					t.Fatal(kind, text, parts)
				}
				end = part.Hi
			}
			if end != len(text) {
				t.Fatal(kind, text, parts)
			}
		}
		all := graphemes(t, d, text)
		n, m := r.Intn(12), r.Intn(12)
		first, _ := clusters.Truncate(d, text, max(n, m))
		twice, _ := clusters.Truncate(d, first, min(n, m))
		once, _ := clusters.Truncate(d, text, min(n, m))
		if !slices.Equal(twice, once) || len(graphemes(t, d, once)) != min(n, m, len(all)) || !slices.Equal(once, text[:len(once)]) {
			t.Fatalf("%X: %d, %d: %X, %X", text, n, m, once, twice)
		}
		reversed, _ := clusters.Reverse(d, text)
		for c, n := range counts(text) {
			if counts(reversed)[c] != n || len(reversed) != len(text) {
				t.Fatalf("%X: %X", text, reversed)
			}
		}
		slices.Reverse(all)
		if !slices.Equal(reversed, slices.Concat(all...)) {
			t.Fatalf("%X: %X", text, reversed)
		}
		if slices.EqualFunc(graphemes(t, d, reversed), all, slices.Equal) {
			undone++
			if back, _ := clusters.Reverse(d, reversed); !slices.Equal(back, text) {
				t.Fatalf("%X: %X: %X", text, reversed, back)
			}
		}
		letters, _ := clusters.Letters(d, text)
		words, _ := clusters.Parts(d, api.Words, text)
		for i, part := range letters {
			if !slices.Contains(words, part) || i > 0 && part.Lo < letters[i-1].Hi {
				t.Fatal(text, letters)
			}
		}
	}
	if undone < 20 {
		t.Error(undone)
	}
}
