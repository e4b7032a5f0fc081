package scripts_test

import (
	"math"
	"math/rand"
	"slices"
	"testing"

	"unicodetext/api"
	"unicodetext/property"
	"unicodetext/scripts"
)

// usual gives small letters of ASCII the script Latin, 3B1 and following Greek, 430 and following Cyrillic, digits Common, 300 and following Inherited.
var usual = api.Property{
	Names: []string{"Other", "Latin", "Greek", "Common", "Inherited", "Cyrillic", "common"},
	Spans: []api.Span{
		{Lo: 0x30, Hi: 0x39, Value: 3}, {Lo: 0x61, Hi: 0x7A, Value: 1}, {Lo: 0x300, Hi: 0x36F, Value: 4},
		{Lo: 0x3B1, Hi: 0x3C9, Value: 2}, {Lo: 0x430, Hi: 0x44F, Value: 5}, {Lo: 0x500, Hi: 0x500, Value: 6},
	},
}

// The elements of the examples.
const (
	latin     = 0x61
	greek     = 0x3B2
	cyrillic  = 0x430
	digit     = 0x30
	mark      = 0x301
	other     = 0x21
	lowerCase = 0x500 // its script is written like Common, but in small letters: a real one
)

// An example is a text with what is found in it.
type example struct {
	text     []int
	of       []string
	runs     []api.Range
	resolved []api.Range
	level    int // if the lists of the examples are allowed
}

var allowed = [][]string{{"Greek"}, {}, {"Latin", "x", "Common", "Greek", "Greek"}, {"Cyrillic", "Latin"}}

var examples = []example{
	{nil, nil, nil, nil, 1},
	{[]int{other}, nil, ranges(0, 1), nil, 1},
	{[]int{digit, mark, -1}, nil, ranges(0, 3), nil, 2},
	{[]int{latin, digit}, []string{"Latin"}, ranges(0, 2), ranges(0, 2), 1},
	{[]int{latin, digit, greek}, []string{"Greek", "Latin"}, ranges(0, 2, 3), []api.Range{{Lo: 2, Hi: 3}, {Lo: 0, Hi: 2}}, 3},
	{[]int{digit, latin, greek}, []string{"Greek", "Latin"}, ranges(0, 2, 3), []api.Range{{Lo: 2, Hi: 3}, {Lo: 0, Hi: 2}}, 3},
	{[]int{mark, other, -1, greek, mark}, []string{"Greek"}, ranges(0, 5), ranges(0, 5), 2},
	{[]int{latin, greek, latin, greek}, []string{"Greek", "Latin"}, ranges(0, 1, 2, 3, 4), []api.Range{{Lo: 1, Hi: 2}, {Lo: 0, Hi: 1}}, 3},
	{[]int{latin, cyrillic, digit}, []string{"Cyrillic", "Latin"}, ranges(0, 1, 3), []api.Range{{Lo: 1, Hi: 3}, {Lo: 0, Hi: 1}}, 3},
	{[]int{greek, greek, cyrillic}, []string{"Cyrillic", "Greek"}, ranges(0, 2, 3), []api.Range{{Lo: 2, Hi: 3}, {Lo: 0, Hi: 2}}, 4},
	{[]int{latin, cyrillic, greek}, []string{"Cyrillic", "Greek", "Latin"}, ranges(0, 1, 2, 3), []api.Range{{Lo: 1, Hi: 2}, {Lo: 2, Hi: 3}, {Lo: 0, Hi: 1}}, 4},
	{[]int{digit, lowerCase, latin}, []string{"Latin", "common"}, ranges(0, 2, 3), []api.Range{{Lo: 2, Hi: 3}, {Lo: 0, Hi: 2}}, 4},
	{[]int{math.MaxInt, latin, math.MinInt}, []string{"Latin"}, ranges(0, 3), ranges(0, 3), 2},
	{[]int{latin, 0x7F}, []string{"Latin"}, ranges(0, 2), ranges(0, 2), 1},
	{[]int{latin, 0x80}, []string{"Latin"}, ranges(0, 2), ranges(0, 2), 2},
	{[]int{0, 0x7F}, nil, ranges(0, 2), nil, 1},
	{[]int{-1}, nil, ranges(0, 1), nil, 2},
}

// ranges returns the ranges between neighbouring positions.
func ranges(positions ...int) []api.Range {
	var l []api.Range
	for i := 1; i < len(positions); i++ {
		l = append(l, api.Range{Lo: positions[i-1], Hi: positions[i]})
	}
	return l
}

// check checks the results of all functions.
func (e example) check(t *testing.T, p api.Property, allowed [][]string) {
	t.Helper()
	given := slices.Clone(e.text)
	if got := scripts.Of(p, e.text); !slices.Equal(got, e.of) {
		t.Errorf("Of(%X) = %v", e.text, got)
	}
	if got := scripts.Mixed(p, e.text); got != (len(e.of) > 1) {
		t.Errorf("Mixed(%X) = %v", e.text, got)
	}
	if got := scripts.Runs(p, e.text); !slices.Equal(got, e.runs) {
		t.Errorf("Runs(%X) = %v", e.text, got)
	}
	if got := scripts.Resolved(p, e.text); !slices.Equal(got, e.resolved) {
		t.Errorf("Resolved(%X) = %v", e.text, got)
	}
	if got := scripts.Level(p, allowed, e.text); got != e.level {
		t.Errorf("Level(%X) = %v", e.text, got)
	}
	if !slices.Equal(e.text, given) {
		t.Errorf("%X has changed", given)
	}
}

// P40.1, P40.2, P40.3

func TestExamples(t *testing.T) {
	for _, e := range examples {
		e.check(t, usual, allowed)
	}
}

func TestASCIIOfSeveralScriptsHasLevelOne(t *testing.T) {
	p := api.Property{Names: []string{"A", "B"}, Spans: []api.Span{{Lo: 0x41, Hi: 0x41, Value: 1}}}
	example{[]int{0x41, 0x40}, []string{"A", "B"}, ranges(0, 1, 2), []api.Range{{Lo: 1, Hi: 2}, {Lo: 0, Hi: 1}}, 1}.check(t, p, nil)
	example{[]int{0x41, 0x80}, []string{"A", "B"}, ranges(0, 1, 2), []api.Range{{Lo: 1, Hi: 2}, {Lo: 0, Hi: 1}}, 4}.check(t, p, nil)
	example{[]int{0x41, -1}, []string{"A", "B"}, ranges(0, 1, 2), []api.Range{{Lo: 1, Hi: 2}, {Lo: 0, Hi: 1}}, 3}.check(t, p, [][]string{{"B", "A"}})
}

func TestPropertyThatIsNotValid(t *testing.T) {
	for _, p := range []api.Property{{}, {Names: []string{"Latin", "Latin"}}, {Names: []string{"Latin", "Greek"}, Spans: []api.Span{{Lo: 5, Hi: 4, Value: 1}}}} {
		example{text: []int{latin, greek, -1}, runs: ranges(0, 3), level: 2}.check(t, p, allowed)
		example{text: []int{latin, digit}, runs: ranges(0, 2), level: 1}.check(t, p, allowed)
		example{level: 1}.check(t, p, allowed)
	}
}

func TestAllNamesButThreeAreRealScripts(t *testing.T) {
	for _, name := range []string{"Common", "Inherited", "Other"} {
		p := api.Property{Names: []string{name, "X"}, Spans: []api.Span{{Lo: 1, Hi: 1, Value: 1}}}
		example{text: []int{0, 2}, runs: ranges(0, 2), level: 1}.check(t, p, nil)
		example{[]int{0, 1, 2}, []string{"X"}, ranges(0, 3), ranges(0, 3), 1}.check(t, p, nil)
	}
	for _, name := range []string{"common", "COMMON", "Inherit", "other", "_", "Unknown", "0"} {
		p := api.Property{Names: []string{name}}
		example{[]int{0x99, -1}, []string{name}, ranges(0, 2), ranges(0, 2), 2}.check(t, p, nil)
	}
}

func TestAllowedLists(t *testing.T) {
	text := []int{latin, greek}
	for _, c := range []struct {
		allowed [][]string
		want    int
	}{
		{nil, 4}, {[][]string{{}}, 4}, {[][]string{{"Latin"}, {"Greek"}}, 4}, {[][]string{{"Greek", "Latin"}}, 3}, {[][]string{{"Latin", "greek"}}, 4},
		{[][]string{{"x"}, nil, {"", "Latin", "a b", "Greek"}}, 3}, {[][]string{{"Latin", "Latin"}}, 4}, {[][]string{{"LatinGreek"}, {"Latin", "Greek ", "Cyrillic"}}, 4},
	} {
		if got := scripts.Level(usual, c.allowed, text); got != c.want {
			t.Error(c.allowed, got)
		}
	}
}

// real returns the script of an element; the empty string if it is no real one.
func real(c int) string {
	name := property.Name(usual, c)
	if name == "Common" || name == "Inherited" || name == "Other" {
		return ""
	}
	return name
}

// resolvedScript returns the resolved script of an element by the definition; the empty string if there is none.
func resolvedScript(text []int, i int) string {
	for before := i; before >= 0; before-- {
		if script := real(text[before]); script != "" {
			return script
		}
	}
	for _, c := range text[i:] {
		if script := real(c); script != "" {
			return script
		}
	}
	return ""
}

func randomText(r *rand.Rand) []int {
	codes := []int{latin, greek, cyrillic, digit, mark, other, -1, latin + 1, greek + 1, digit + 1, mark + 1}
	text := make([]int, r.Intn(10))
	for i := range text {
		text[i] = codes[r.Intn(len(codes))]
	}
	return text
}

func TestRunsAgreeWithTheDefinition(t *testing.T) {
	r := rand.New(rand.NewSource(1))
	for range 5000 {
		text := randomText(r)
		runs, first := []api.Range(nil), map[string]api.Range{}
		for i := range text {
			script := resolvedScript(text, i)
			if i > 0 && script == resolvedScript(text, i-1) {
				runs[len(runs)-1].Hi = i + 1
			} else {
				runs = append(runs, api.Range{Lo: i, Hi: i + 1})
			}
		}
		for _, run := range slices.Backward(runs) {
			first[resolvedScript(text, run.Lo)] = run
		}
		if got := scripts.Runs(usual, text); !slices.Equal(got, runs) {
			t.Fatalf("Runs(%X) = %v", text, got)
		}
		resolved := scripts.Resolved(usual, text)
		of := scripts.Of(usual, text)
		if len(resolved) != len(of) {
			t.Fatalf("%X: %v, %v", text, resolved, of)
		}
		for i, script := range of {
			if resolved[i] != first[script] {
				t.Fatalf("Resolved(%X) = %v", text, resolved)
			}
		}
	}
}

// P40.4

func TestRunsAreTheSequence(t *testing.T) {
	r := rand.New(rand.NewSource(2))
	for range 3000 {
		text := randomText(r)
		end := 0
		for _, run := range scripts.Runs(usual, text) {
			if run.Lo != end || run.Hi <= run.Lo || end > 0 && resolvedScript(text, end) == resolvedScript(text, end-1) {
				t.Fatalf("%X: %v", text, run)
			}
			end = run.Hi
		}
		if end != len(text) {
			t.Fatalf("%X: %d", text, end)
		}
	}
}

func TestOfAndLevelOfTwoSequences(t *testing.T) {
	r := rand.New(rand.NewSource(3))
	for range 3000 {
		a, b := randomText(r), randomText(r)
		both := slices.Concat(a, b)
		union := slices.Concat(scripts.Of(usual, a), scripts.Of(usual, b))
		slices.Sort(union)
		if got := scripts.Of(usual, both); !slices.Equal(got, slices.Compact(union)) {
			t.Fatalf("Of(%X) = %v", both, got)
		}
		if got := scripts.Level(usual, allowed, both); got < scripts.Level(usual, allowed, a) || got < scripts.Level(usual, allowed, b) {
			t.Fatalf("Level(%X) = %v", both, got)
		}
		unreal := slices.DeleteFunc(slices.Clone(both), func(c int) bool { return real(c) == "" })
		if !slices.Equal(scripts.Of(usual, unreal), scripts.Of(usual, both)) {
			t.Fatalf("%X", both)
		}
	}
}
