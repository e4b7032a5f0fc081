package setexpr_test

import (
	"math"
	"math/rand"
	"slices"
	"strings"
	"testing"

	"unicodetext/api"
	"unicodetext/cpset"
	"unicodetext/database"
	"unicodetext/setexpr"
)

// usual returns a database with something in each property and each set.
func usual(t testing.TB) api.Database {
	t.Helper()
	d, name, fault := database.Parse([]api.File{
		{Name: "category", Text: "@names Other Lu Ll\n0041..005A; Lu\n0061..007A; Ll"},
		{Name: "width", Text: "@names Narrow Wide\n3000..4DFF; Wide"},
		{Name: "script", Text: "@names Other Latin_1\n0041; Latin_1"},
		{Name: "grapheme", Text: "@names Other CR\n000D; CR"},
		{Name: "word", Text: "@names Other L\n0001; L"},
		{Name: "sentence", Text: "@names Other S\n0002; S"},
		{Name: "line", Text: "@names Other S\n0003; S"},
		{Name: "exclusions", Text: "0958..095F"},
		{Name: "cased", Text: "0041..005A\n0061..007A"},
		{Name: "ignorable", Text: "0027"},
		{Name: "start", Text: "0010"},
		{Name: "continue", Text: "0011\n10FFFF"},
		{Name: "medial", Text: "00B7"},
	})
	if fault != (api.Fault{}) {
		t.Fatal(name, fault)
	}
	return d
}

// P18.1

func TestParse(t *testing.T) {
	d := usual(t)
	for s, want := range map[string]string{
		"[]": "", "[^]": "0000..10FFFF", "[a]": "0061", "[a-c]": "0061..0063", "[a-a]": "0061", "[cba]": "0061..0063", "[^a]": "0000..0060 0062..10FFFF",
		"  [ ^  ab  ]   ":            "0000..0060 0063..10FFFF",
		"[ a - c x ]":                "0061..0063 0078",
		"[a -c]":                     "0061..0063",
		`[\ ]`:                       "0020",
		`[\[\]\^\-\&\\\{\}]`:         "0026 002D 005B..005E 007B 007D",
		`[\--\\]`:                    "002D..005C",
		`[!-~]`:                      "0021..007E",
		`[\u{0}\u{10FFFF}\u{00041}]`: "0000 0041 10FFFF",
		`[\u{41}-\u{43}\u{D800}]`:    "0041..0043 D800",
		`[up\u{70}=<>#"'_]`:          "0022..0023 0027 003C..003E 005F 0070 0075",
		"[a-z&[aeiou]]":              "0061 0065 0069 006F 0075",
		"[a-z--[b-y]]":               "0061 007A",
		"[a-c--[b]b]":                "0061..0063",
		"[a-c -- [b] x & [ax] y]":    "0061 0078..0079",
		"[&[a]b]":                    "0062",
		"[--[a]b]":                   "0062",
		"[^a-z--[b-y]]":              "0000..0060 0062..0079 007B..10FFFF",
		"[[a][c]b[^]&[a-c]]":         "0061..0063",
		"[[^[^a]]]":                  "0061",
		"[a-c--[^[b]]]":              "0062",
		`[\p{cased}]`:                "0041..005A 0061..007A",
		`[\p{category=Lu}]`:          "0041..005A",
		`[\p{category=Lu}-- \p{script=Latin_1} & \p{cased}]`:                    "0042..005A",
		`[^\p{width=Narrow}]`:                                                   "3000..4DFF",
		`[\p{script=Latin_1}\p{grapheme=CR}\p{word=L}\p{sentence=S}\p{line=S}]`: "0001..0003 000D 0041",
		`[\p{exclusions}\p{ignorable}\p{start}\p{continue}\p{medial}]`:          "0010..0011 0027 00B7 0958..095F 10FFFF",
		`[a\p{medial}-- \p{medial}]`:                                            "0061",
		`[\p{category=Other}--[\u{80}-\u{10FFFF}]]`:                             "0000..0040 005B..0060 007B..007F",
		"[a --[a]]": "",
		"[b--[a] ]": "0062",
	} {
		set, fault := setexpr.Parse(d, s)
		if cpset.Text(set) != want || fault != (api.Fault{}) || !cpset.Valid(set) {
			t.Errorf("%s: %s, %v", s, cpset.Text(set), fault)
		}
	}
	if set, _ := setexpr.Parse(d, "[a-z--[aeiou]]"); cpset.Count(set) != 21 {
		t.Error(set)
	}
}

// A faulty is an expression with a fault.
type faulty struct {
	s     string
	errno api.Errno
	at    int
}

func TestFaults(t *testing.T) {
	d := usual(t)
	long := strings.Repeat("[", 18) + strings.Repeat("]", 18)
	for _, c := range []faulty{
		{"", api.ErrSyntax, 0}, {"  ", api.ErrSyntax, 2}, {"a", api.ErrSyntax, 0}, {" ]", api.ErrSyntax, 1}, {"[", api.ErrSyntax, 1}, {"[a", api.ErrSyntax, 2}, {"[]a", api.ErrSyntax, 2}, {"[] []", api.ErrSyntax, 3}, {"[]\n", api.ErrSyntax, 2},
		{"[^", api.ErrSyntax, 2}, {"[^^]", api.ErrSyntax, 2}, {"[a^]", api.ErrSyntax, 2}, {"[ ^ ^", api.ErrSyntax, 4}, {"^[a]", api.ErrSyntax, 0},
		{"[a-c-e]", api.ErrSyntax, 5}, {"[b-a]", api.ErrSyntax, 3}, {"[b - a", api.ErrSyntax, 5}, {`[b-\u{61}]`, api.ErrSyntax, 3}, {`[b-\u{61`, api.ErrSyntax, 8}, {`[b-\u{6-`, api.ErrSyntax, 7}, {`[b-\-]`, api.ErrSyntax, 3}, {`[b-\`, api.ErrSyntax, 4},
		{"[-]", api.ErrSyntax, 2}, {"[-a]", api.ErrSyntax, 2}, {"[a-]", api.ErrSyntax, 3}, {"[a-", api.ErrSyntax, 3}, {"[a- -b]", api.ErrSyntax, 4}, {"[a - -[b]]", api.ErrSyntax, 5}, {"[a-[b]]", api.ErrSyntax, 3}, {`[a-\p{cased}]`, api.ErrSyntax, 4}, {"[[a]-b]", api.ErrSyntax, 5}, {`[\p{cased}-b]`, api.ErrSyntax, 11}, {"[a-c -b]", api.ErrSyntax, 6},
		{"[a--]", api.ErrSyntax, 4}, {"[a--b]", api.ErrSyntax, 4}, {"[a---]", api.ErrSyntax, 4}, {"[a&]", api.ErrSyntax, 3}, {"[a&b]", api.ErrSyntax, 3}, {"[a&&[b]]", api.ErrSyntax, 3}, {`[a&\u{61}]`, api.ErrSyntax, 4}, {`[a&\-]`, api.ErrSyntax, 4}, {"[a--", api.ErrSyntax, 4}, {"[a& ", api.ErrSyntax, 4}, {"[a& ^", api.ErrSyntax, 4},
		{"[{]", api.ErrSyntax, 1}, {"[}]", api.ErrSyntax, 1}, {"[\x1F]", api.ErrSyntax, 1}, {"[\x7F]", api.ErrSyntax, 1}, {"[\xC3\xA9]", api.ErrSyntax, 1}, {"[\t]", api.ErrSyntax, 1},
		{`[\`, api.ErrSyntax, 2}, {`[\a]`, api.ErrSyntax, 2}, {`[\"]`, api.ErrSyntax, 2}, {`[\u`, api.ErrSyntax, 3}, {`[\u0]`, api.ErrSyntax, 3}, {`[\u {`, api.ErrSyntax, 3}, {`[\u{`, api.ErrSyntax, 4}, {`[\u{}]`, api.ErrSyntax, 4}, {`[\u{ 1}]`, api.ErrSyntax, 4}, {`[\u{1 }]`, api.ErrSyntax, 5}, {`[\u{a}]`, api.ErrSyntax, 4}, {`[\u{G}]`, api.ErrSyntax, 4}, {`[\u{1G}]`, api.ErrSyntax, 5},
		{`[\u{110000}]`, api.ErrSyntax, 9}, {`[\u{FFFFFF}]`, api.ErrSyntax, 9}, {`[\u{0000041}]`, api.ErrSyntax, 10}, {`[\u{10FFFF0}]`, api.ErrSyntax, 10}, {`[\u{10FFFF`, api.ErrSyntax, 10}, {`[\u{10FFFF}`, api.ErrSyntax, 11},
		{`[\p`, api.ErrSyntax, 3}, {`[\p]`, api.ErrSyntax, 3}, {`[\p{`, api.ErrSyntax, 4}, {`[\p{}]`, api.ErrSyntax, 4}, {`[\p{=`, api.ErrSyntax, 4}, {`[\p{ cased}]`, api.ErrSyntax, 4}, {`[\p{cased }]`, api.ErrSyntax, 9}, {`[\p{unknown-}]`, api.ErrSyntax, 11}, {`[\p{unknown`, api.ErrSyntax, 11}, {`[\p{width=}]`, api.ErrSyntax, 10}, {`[\p{width= Wide}]`, api.ErrSyntax, 10}, {`[\p{width=x-}]`, api.ErrSyntax, 11}, {`[\p{width=x=}]`, api.ErrSyntax, 11}, {`[\p{width=x`, api.ErrSyntax, 11}, {`[\p{width=Wide`, api.ErrSyntax, 14},
		{`[\p{width=x}]`, api.ErrName, 10}, {`[\p{width}]`, api.ErrName, 4}, {`[\p{width}`, api.ErrName, 4}, {`[\p{cased=x}]`, api.ErrName, 4}, {`[\p{cased=`, api.ErrName, 4}, {`[\p{version}]`, api.ErrName, 4}, {`[\p{classes=0}]`, api.ErrName, 4}, {`[\p{lower}]`, api.ErrName, 4}, {`[\p{Cased}]`, api.ErrName, 4}, {`[\p{width=wide}]`, api.ErrName, 10}, {`[\p{width=Other}]`, api.ErrName, 10}, {`[\p{` + strings.Repeat("a", 99) + `}`, api.ErrName, 4}, {`[\p{_1=]`, api.ErrName, 4}, {`[\p{x}\q]`, api.ErrName, 4}, {`[\q\p{x}]`, api.ErrSyntax, 2},
		{long, api.ErrLimit, 17}, {strings.Repeat("[ ^", 40), api.ErrLimit, 3 * 17}, {strings.Repeat("[a&", 17) + "[", api.ErrLimit, 51},
		{"[" + strings.Repeat("a", api.MaxText-1), api.ErrSyntax, api.MaxText}, {strings.Repeat(" ", api.MaxText+1), api.ErrSize, 0},
	} {
		if set, fault := setexpr.Parse(d, c.s); fault != (api.Fault{Errno: c.errno, At: c.at}) || len(set.Ranges) != 0 {
			t.Errorf("%.60s: %v, %v", c.s, set, fault)
		}
	}
}

func TestDepthAndSize(t *testing.T) {
	d := usual(t)
	deep := strings.Repeat("[", 17) + "a" + strings.Repeat("]", 17)
	wide := "[" + strings.Repeat("[[a]]", 5000) + "]"
	full := "[" + strings.Repeat("a", api.MaxText-2) + "]"
	codes := "[" + strings.Repeat(`\u{61}`, 10000) + "]"
	for _, s := range []string{deep, wide, full, codes} {
		if set, fault := setexpr.Parse(d, s); cpset.Text(set) != "0061" || fault != (api.Fault{}) {
			t.Errorf("%.20s: %v", s, fault)
		}
	}
	if _, fault := setexpr.Parse(d, full+" "); fault != (api.Fault{Errno: api.ErrSize}) {
		t.Error(fault)
	}
}

func TestInvalidDatabasesHaveNoNames(t *testing.T) {
	bad := usual(t)
	bad.Confusable = []api.Mapping{{From: -1}}
	for _, d := range []api.Database{{}, bad} {
		for s, at := range map[string]int{`[\p{cased}]`: 4, `[a\p{width=Wide}]`: 5, `[\p{category=Other}]`: 4, `[\p{width=`: 4} {
			if set, fault := setexpr.Parse(d, s); fault != (api.Fault{Errno: api.ErrName, At: at}) || len(set.Ranges) != 0 {
				t.Error(s, set, fault)
			}
		}
		if set, fault := setexpr.Parse(d, "[^a-z]"); cpset.Text(set) != "0000..0060 007B..10FFFF" || fault != (api.Fault{}) {
			t.Error(set, fault)
		}
	}
}

// P18.2

func TestText(t *testing.T) {
	for i, c := range []struct {
		set  api.Set
		want string
	}{
		{api.Set{}, "[]"},
		{api.Set{Ranges: []api.Range{{Lo: 0, Hi: 0}}}, `[\u{0}]`},
		{api.Set{Ranges: []api.Range{{Lo: 0x41, Hi: 0x5A}, {Lo: 0x100, Hi: 0x100}}}, `[\u{41}-\u{5A}\u{100}]`},
		{api.Set{Ranges: []api.Range{{Lo: 0, Hi: 0x10FFFF}}}, `[\u{0}-\u{10FFFF}]`},
		{api.Set{Ranges: []api.Range{{Lo: 0x62, Hi: 0x63}, {Lo: 0x61, Hi: 0x61}, {Lo: math.MaxInt, Hi: 0}}}, `[\u{61}-\u{63}]`},
		{api.Set{Ranges: []api.Range{{Lo: math.MinInt, Hi: 1}, {Lo: 0xD7FF, Hi: 0xD7FF}}}, `[\u{0}-\u{1}\u{D7FF}]`},
	} {
		if got := setexpr.Text(c.set); got != c.want {
			t.Errorf("%d: %s", i, got)
		}
	}
}

// randomSet returns a set of few ranges.
func randomSet(r *rand.Rand) api.Set {
	var l []api.Range
	for range r.Intn(6) {
		lo := r.Intn(1 << (1 + r.Intn(20)))
		l = append(l, api.Range{Lo: lo, Hi: lo + r.Intn(5)*r.Intn(99)})
	}
	return cpset.Make(l)
}

// P18.3

func TestParseOfText(t *testing.T) {
	r := rand.New(rand.NewSource(1))
	for range 2000 {
		set := randomSet(r)
		if got, fault := setexpr.Parse(api.Database{}, setexpr.Text(set)); !slices.Equal(got.Ranges, set.Ranges) || fault != (api.Fault{}) {
			t.Fatal(set, got, fault)
		}
	}
}

// parsed returns the set of an expression without a fault.
func parsed(t *testing.T, s string) api.Set {
	t.Helper()
	set, fault := setexpr.Parse(api.Database{}, s)
	if fault != (api.Fault{}) {
		t.Fatal(s, fault)
	}
	return set
}

func TestLawsOfSets(t *testing.T) {
	r := rand.New(rand.NewSource(2))
	for range 500 {
		a, b := randomSet(r), randomSet(r)
		x, y := setexpr.Text(a), setexpr.Text(b)
		for s, want := range map[string]api.Set{
			"[" + x + y + "]": cpset.Or(a, b), "[" + y + x + "]": cpset.Or(a, b), "[" + x + "&" + y + "]": cpset.And(a, b), "[" + x + "--" + y + "]": cpset.Minus(a, b), "[^" + x + "]": cpset.Not(a), "[^[^" + x + "]]": a,
			"[^" + x + "--" + y + "]": cpset.Not(cpset.Minus(a, b)), "[" + x + "&" + y + x + "]": a, x[:len(x)-1] + y[1:]: cpset.Or(a, b),
		} {
			if got := parsed(t, s); !slices.Equal(got.Ranges, want.Ranges) {
				t.Fatal(s, got)
			}
		}
	}
}
