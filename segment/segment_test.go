package segment_test

import (
	"math"
	"math/rand"
	"slices"
	"testing"

	"unicodetext/api"
	"unicodetext/breakauto"
	"unicodetext/breakrule"
	"unicodetext/property"
	"unicodetext/segment"
)

// letters gives 61 to 64 the values A to D.
var letters = api.Property{
	Names: []string{"None", "A", "B", "C", "D"},
	Spans: []api.Span{{Lo: 0x61, Hi: 0x61, Value: 1}, {Lo: 0x62, Hi: 0x62, Value: 2}, {Lo: 0x63, Hi: 0x63, Value: 3}, {Lo: 0x64, Hi: 0x64, Value: 4}},
}

// compile returns rules over named classes and their table.
func compile(t testing.TB, s string, classes ...string) (api.BreakRules, api.BreakTable) {
	t.Helper()
	rules, fault := breakrule.Parse(classes, s)
	table, errno := breakauto.Compile(rules)
	if fault != (api.Fault{}) || errno != api.OK {
		t.Fatal(s, fault, errno)
	}
	return rules, table
}

// ranges returns the ranges between neighbouring positions.
func ranges(positions ...int) []api.Range {
	var l []api.Range
	for i := 1; i < len(positions); i++ {
		l = append(l, api.Range{Lo: positions[i-1], Hi: positions[i]})
	}
	return l
}

// A divided is a sequence with everything that is found in it.
type divided struct {
	text, classes, actions, boundaries []int
	parts                              []api.Range
}

// check checks the results of all functions.
func (d divided) check(t *testing.T, p api.Property, table api.BreakTable) {
	t.Helper()
	given := slices.Clone(d.text)
	if got := segment.Classes(p, table, d.text); !slices.Equal(got, d.classes) {
		t.Errorf("Classes(%X) = %v", d.text, got)
	}
	if got := segment.Actions(p, table, d.text); !slices.Equal(got, d.actions) {
		t.Errorf("Actions(%X) = %v", d.text, got)
	}
	if got := segment.Boundaries(p, table, d.text); !slices.Equal(got, d.boundaries) {
		t.Errorf("Boundaries(%X) = %v", d.text, got)
	}
	if got := segment.Parts(p, table, d.text); !slices.Equal(got, d.parts) {
		t.Errorf("Parts(%X) = %v", d.text, got)
	}
	if got := segment.Count(p, table, d.text); got != len(d.parts) {
		t.Errorf("Count(%X) = %v", d.text, got)
	}
	if !slices.Equal(d.text, given) {
		t.Errorf("%X has changed", given)
	}
}

// P30.1, P30.2

func TestSegment(t *testing.T) {
	_, table := compile(t, "keep A / B\nbreak /", "X", "A", "B")
	for _, d := range []divided{
		{nil, nil, []int{2}, []int{0}, nil},
		{[]int{0x61, 0x62, 0x61}, []int{1, 2, 1}, []int{2, 1, 2, 2}, []int{0, 2, 3}, ranges(0, 2, 3)},
		{[]int{0x63, 0x40, -1}, []int{0, 0, 0}, []int{2, 2, 2, 2}, []int{0, 1, 2, 3}, ranges(0, 1, 2, 3)}, // C and None are no classes
		{[]int{math.MaxInt, 0x61, 0x62}, []int{0, 1, 2}, []int{2, 2, 1, 2}, []int{0, 1, 3}, ranges(0, 1, 3)},
	} {
		d.check(t, letters, table)
	}
}

func TestEndsAreBoundariesOnlyIfTheyAreDecided(t *testing.T) {
	_, table := compile(t, "keep start /\nkeep / end\nmust A / B\nkeep any / any", "A", "B")
	for _, d := range []divided{
		{nil, nil, []int{1}, nil, nil},
		{[]int{0x61}, []int{0}, []int{1, 1}, nil, ranges(0, 1)},
		{[]int{0x61, 0x62}, []int{0, 1}, []int{1, 3, 1}, []int{1}, ranges(0, 1, 2)},
		{[]int{0x62, 0x61, 0x61, 0x62, 0x62}, []int{1, 0, 0, 1, 1}, []int{1, 1, 1, 3, 1, 1}, []int{3}, ranges(0, 3, 5)},
	} {
		d.check(t, letters, table)
	}
}

func TestWithoutARuleThatDecidesThereIsABoundary(t *testing.T) {
	_, table := compile(t, "keep A / A", "A")
	divided{[]int{0x61, 0x61}, []int{0, 0}, []int{2, 1, 2}, []int{0, 2}, ranges(0, 2)}.check(t, letters, table)
	_, table = compile(t, "", "A")
	divided{[]int{0x61, 0x61}, []int{0, 0}, []int{2, 2, 2}, []int{0, 1, 2}, ranges(0, 1, 2)}.check(t, letters, table)
}

func TestClassOfNumbersThatAreNoCodePoints(t *testing.T) {
	_, table := compile(t, "keep None / None", "A", "B", "None")
	divided{[]int{-1, math.MinInt, 0x61, api.MaxCode + 1}, []int{2, 2, 0, 2}, []int{2, 1, 2, 2, 2}, []int{0, 2, 3, 4}, ranges(0, 2, 3, 4)}.check(t, letters, table)
}

func TestPropertyThatIsNotValid(t *testing.T) {
	_, table := compile(t, "keep Other / Other\nbreak /", "A", "Other")
	for _, p := range []api.Property{{}, {Names: []string{"A", "A"}}, {Names: []string{"A", "B"}, Spans: []api.Span{{Lo: 0x61, Hi: 0x61, Value: 2}}}} {
		divided{[]int{0x61, -1, 0x62}, []int{1, 1, 1}, []int{2, 1, 1, 2}, []int{0, 3}, ranges(0, 3)}.check(t, p, table)
	}
}

func TestTablesThatAreNotValid(t *testing.T) {
	_, table := compile(t, "keep A / B", "A", "B")
	change := func(do func(t *api.BreakTable)) api.BreakTable {
		_, changed := compile(t, "keep A / B", "A", "B")
		do(&changed)
		return changed
	}
	for i, bad := range []api.BreakTable{
		{},
		{Classes: table.Classes},
		change(func(t *api.BreakTable) { t.Classes = nil }),
		change(func(t *api.BreakTable) { t.Classes[0] = "B" }),
		change(func(t *api.BreakTable) { t.Classes[0] = "any" }),
		change(func(t *api.BreakTable) { t.Actions[0] = 0 }),
		change(func(t *api.BreakTable) { t.Left.Next[0][0] = 2 }),
		change(func(t *api.BreakTable) { t.Left.Next[1] = t.Left.Next[1][:1] }),
		change(func(t *api.BreakTable) { t.Right.Marks[1][0] = 1 }),
		change(func(t *api.BreakTable) { t.Right.Marks = nil }),
	} {
		if breakauto.Valid(bad) {
			t.Error(i)
		}
		for _, text := range [][]int{nil, {0x61}, {0x61, 0x62, -1}} {
			divided{text: text}.check(t, letters, bad)
		}
	}
}

// P30.3

// ruleSets are rules over the classes X, A, B, C and D.
var ruleSets = []string{
	"break /",
	"keep any / any",
	"keep A B* / C\nmust D /\nkeep / D",
	"keep start (A A)* A / A\nkeep [^A] (A A)* A / A",
	"keep X /\nbreak / A\nkeep any / [B C]\nmust any / end",
	"keep / A\nattach D\nkeep B / B\nkeep C / B C",
	"must /",
}

// randomText returns elements of all classes, and numbers that are no code points.
func randomText(r *rand.Rand) []int {
	text := make([]int, r.Intn(12))
	for i := range text {
		text[i] = 0x60 + r.Intn(6)
		if r.Intn(20) == 0 {
			text[i] = -1
		}
	}
	return text
}

// classOf returns the class of an element by the definition.
func classOf(p api.Property, table api.BreakTable, c int) int {
	return max(slices.Index(table.Classes, property.Name(p, c)), 0)
}

func TestActionsAreThoseOfTheRules(t *testing.T) {
	r := rand.New(rand.NewSource(1))
	for _, s := range ruleSets {
		rules, table := compile(t, s, "X", "A", "B", "C", "D")
		for range 500 {
			d := divided{text: randomText(r)}
			for _, c := range d.text {
				d.classes = append(d.classes, classOf(letters, table, c))
			}
			start := 0
			for at := range len(d.text) + 1 {
				action, _ := breakrule.Decide(rules, d.classes, at)
				d.actions = append(d.actions, action)
				if action != api.Keep {
					d.boundaries = append(d.boundaries, at)
				}
				if at > start && (action != api.Keep || at == len(d.text)) {
					d.parts = append(d.parts, api.Range{Lo: start, Hi: at})
					start = at
				}
			}
			d.check(t, letters, table)
		}
	}
}

func TestPartsAreTheSequence(t *testing.T) {
	r := rand.New(rand.NewSource(2))
	for _, s := range ruleSets {
		_, table := compile(t, s, "X", "A", "B", "C", "D")
		for range 500 {
			text := randomText(r)
			end := 0
			for _, part := range segment.Parts(letters, table, text) {
				if part.Lo != end || part.Hi <= part.Lo {
					t.Fatal(s, text, part)
				}
				end = part.Hi
			}
			if end != len(text) {
				t.Fatal(s, text, end)
			}
		}
	}
}

// Sequences that agree in their classes have the same boundaries, whatever their elements and the names of their values are.
func TestBoundariesDependOnClassesOnly(t *testing.T) {
	moved := api.Property{Names: []string{"D", "C", "B", "Unknown", "A", "X"}, Spans: []api.Span{
		{Lo: 0x160, Hi: 0x160, Value: 5}, {Lo: 0x161, Hi: 0x161, Value: 4}, {Lo: 0x162, Hi: 0x162, Value: 2}, {Lo: 0x163, Hi: 0x163, Value: 1}, {Lo: 0x165, Hi: 0x165, Value: 3},
	}}
	r := rand.New(rand.NewSource(3))
	for _, s := range ruleSets {
		_, table := compile(t, s, "X", "A", "B", "C", "D")
		for range 500 {
			text := slices.DeleteFunc(randomText(r), func(c int) bool { return c < 0 })
			var other []int
			for _, c := range text {
				other = append(other, c+0x100)
			}
			if a, b := segment.Classes(letters, table, text), segment.Classes(moved, table, other); !slices.Equal(a, b) {
				t.Fatal(s, text, a, b)
			}
			if a, b := segment.Boundaries(letters, table, text), segment.Boundaries(moved, table, other); !slices.Equal(a, b) {
				t.Fatal(s, text, a, b)
			}
		}
	}
}

func TestLongSequences(t *testing.T) {
	_, table := compile(t, ruleSets[2], "X", "A", "B", "C", "D")
	text := make([]int, 200000)
	for i := range text {
		text[i] = i % 100000
	}
	if n := segment.Count(letters, table, text); n != len(segment.Parts(letters, table, text)) || n < len(text)-9 {
		t.Error(n)
	}
}
