package anywhere_test

import (
	"math"
	"math/rand"
	"slices"
	"testing"

	"unicodetext/anywhere"
	"unicodetext/api"
	"unicodetext/breakauto"
	"unicodetext/breakrule"
	"unicodetext/segment"
	"unicodetext/standard"
)

// letters gives 61 to 64 the values A to D.
func letters() api.Property {
	return api.Property{
		Names: []string{"X", "A", "B", "C", "D"},
		Spans: []api.Span{{Lo: 0x61, Hi: 0x61, Value: 1}, {Lo: 0x62, Hi: 0x62, Value: 2}, {Lo: 0x63, Hi: 0x63, Value: 3}, {Lo: 0x64, Hi: 0x64, Value: 4}},
	}
}

// compile returns the table of rules over named classes.
func compile(t testing.TB, s string, classes ...string) api.BreakTable {
	t.Helper()
	rules, fault := breakrule.Parse(classes, s)
	table, errno := breakauto.Compile(rules)
	if fault != (api.Fault{}) || errno != api.OK {
		t.Fatal(s, fault, errno)
	}
	return table
}

// tables are tables over the classes X, A, B, C and D with many and with few synchronizing pairs, and one whose states are not all reached.
func tables(t testing.TB) []api.BreakTable {
	var l []api.BreakTable
	for _, s := range []string{
		"", "break /", "keep any / any", "keep A / B",
		"keep start (A A)* A / A\nkeep [^A] (A A)* A / A",
		"keep A B C / D\nmust D D / \nkeep start / A\nkeep / end",
		"keep A [B C]* / D\nkeep B / B* C",
		"must A any A /\nkeep B any any / D",
		"keep (A B | C)* D / X",
		"attach [C D]\nkeep A / B\nkeep B A / A\nbreak X /\nkeep / any",
	} {
		l = append(l, compile(t, s, "X", "A", "B", "C", "D"))
	}
	extra := compile(t, "keep A / B", "X", "A", "B", "C", "D")
	extra.Left.Next = append(extra.Left.Next, []int{2, 0, 2, 2, 1})
	extra.Left.Marks = append(extra.Left.Marks, nil)
	return append(l, extra)
}

// badTables are tables that are not valid.
func badTables(t testing.TB) []api.BreakTable {
	change := func(do func(t *api.BreakTable)) api.BreakTable {
		table := compile(t, "keep A / B", "X", "A", "B", "C", "D")
		do(&table)
		return table
	}
	return []api.BreakTable{
		{},
		change(func(t *api.BreakTable) { t.Classes = nil }),
		change(func(t *api.BreakTable) { t.Classes[1] = "X" }),
		change(func(t *api.BreakTable) { t.Actions[0] = 4 }),
		change(func(t *api.BreakTable) { t.Left.Next[1][0] = 2 }),
		change(func(t *api.BreakTable) { t.Left.Next[1][0] = -1 }),
		change(func(t *api.BreakTable) { t.Left.Next[0] = nil }),
		change(func(t *api.BreakTable) { t.Right.Marks = nil }),
	}
}

// naiveSync returns all synchronizing pairs by the definition.
func naiveSync(t api.BreakTable) [][3]int {
	var l [][3]int
	for a := range t.Classes {
		for b := range t.Classes {
			reached := map[int]bool{}
			state := 0
			for from := range t.Left.Next {
				state = t.Left.Next[t.Left.Next[from][a]][b]
				reached[state] = true
			}
			if len(reached) == 1 {
				l = append(l, [3]int{a, b, state})
			}
		}
	}
	return l
}

// P31.1

func TestSync(t *testing.T) {
	want := [][3]int{{0, 0, 1}, {0, 1, 0}, {1, 0, 1}, {1, 1, 0}}
	if got := anywhere.Sync(compile(t, "keep A / B", "A", "B")); !slices.Equal(got, want) {
		t.Error(got)
	}
	// After two As, the number of those in front of them is not known.
	var pairs [][2]int
	for _, p := range anywhere.Sync(compile(t, "keep start (A A)* A / A\nkeep B (A A)* A / A", "A", "B")) {
		pairs = append(pairs, [2]int{p[0], p[1]})
	}
	if !slices.Equal(pairs, [][2]int{{0, 1}, {1, 0}, {1, 1}}) {
		t.Error(pairs)
	}
	all := tables(t)
	for kind := api.Graphemes; kind <= api.Lines; kind++ {
		all = append(all, standard.Table(kind))
	}
	for i, table := range all {
		if got := anywhere.Sync(table); !slices.Equal(got, naiveSync(table)) {
			t.Errorf("%d: %v, not %v", i, got, naiveSync(table))
		}
	}
	for i, table := range badTables(t) {
		if got := anywhere.Sync(table); len(got) != 0 {
			t.Error(i, got)
		}
	}
}

func TestStart(t *testing.T) {
	table := compile(t, "keep A / B", "A", "B")
	for at, want := range [][2]int{{0, 0}, {0, 0}, {2, 0}, {3, 1}, {4, 0}} {
		if from, state := anywhere.Start(table, []int{0, 1, 0, 1}, at); from != want[0] || state != want[1] {
			t.Error(at, from, state)
		}
	}
	pairs := compile(t, "keep start (A A)* A / A\nkeep B (A A)* A / A", "A", "B")
	l := []int{0, 0, 0, 1, 0, 0, 0, 0}
	for at := range len(l) + 1 {
		want := 0
		if at >= 4 {
			want = min(at, 5) // B and A are a synchronizing pair, and so are A and B
		}
		if from, _ := anywhere.Start(pairs, l, at); from != want {
			t.Error(at, from)
		}
	}
}

func TestWhatIsNotReadable(t *testing.T) {
	table := compile(t, "keep A / B", "X", "A", "B", "C", "D")
	l := []int{1, 2, 1}
	check := func(table api.BreakTable, l []int, at int) {
		t.Helper()
		if from, state := anywhere.Start(table, l, at); from != 0 || state != 0 {
			t.Error(l, at, from, state)
		}
		if state := anywhere.State(table, l, at); state != 0 {
			t.Error(l, at, state)
		}
	}
	if anywhere.State(table, l, 3) == 0 {
		t.Error("the state does not tell")
	}
	for _, at := range []int{-1, 4, math.MinInt, math.MaxInt} {
		check(table, l, at)
	}
	for _, class := range []int{-1, 5, math.MinInt, math.MaxInt} {
		check(table, []int{1, 2, 1, class}, 3) // also where it is not read
		check(table, []int{class, 2, 1}, 3)
	}
	for _, bad := range badTables(t) {
		check(bad, l, 3)
		check(bad, nil, 0)
	}
}

// randomClasses returns classes of five.
func randomClasses(r *rand.Rand, most int) []int {
	l := make([]int, r.Intn(most+1))
	for i := range l {
		l[i] = r.Intn(5)
		if i > 0 && r.Intn(2) == 0 {
			l[i] = l[i-1]
		}
	}
	return l
}

// P31.1, P31.3

func TestStartAndState(t *testing.T) {
	r := rand.New(rand.NewSource(1))
	for i, table := range tables(t) {
		sync := map[[2]int]int{}
		for _, p := range naiveSync(table) {
			sync[[2]int{p[0], p[1]}] = p[2]
		}
		for range 200 {
			l := randomClasses(r, 12)
			states := breakauto.Left(table, l)
			for at := range len(l) + 1 {
				want, wantState := 0, 0
				for from := 2; from <= at; from++ {
					if state, ok := sync[[2]int{l[from-2], l[from-1]}]; ok {
						want, wantState = from, state
					}
				}
				from, state := anywhere.Start(table, l, at)
				if from != want || state != wantState {
					t.Fatalf("%d: Start(%v, %d) = %d, %d, not %d, %d", i, l, at, from, state, want, wantState)
				}
				for _, class := range l[from:at] {
					state = table.Left.Next[state][class]
				}
				if got := anywhere.State(table, l, at); got != states[at] || got != state {
					t.Fatalf("%d: State(%v, %d) = %d, not %d or %d", i, l, at, got, states[at], state)
				}
			}
		}
	}
}

// P31.2

func TestBoundaries(t *testing.T) {
	table := compile(t, "keep start /\nkeep A / B\nmust C /\nkeep / end", "A", "B", "C")
	text := []int{0x61, 0x62, 0x63, 0x61, 0x62} // the boundaries are 2 and 3
	for _, c := range []struct {
		at             int
		is             bool
		next, previous int
		around         api.Range
	}{
		{math.MinInt, false, 2, -1, api.Range{}},
		{-1, false, 2, -1, api.Range{}},
		{0, false, 2, -1, api.Range{Lo: 0, Hi: 2}},
		{1, false, 2, -1, api.Range{Lo: 0, Hi: 2}},
		{2, true, 3, -1, api.Range{Lo: 2, Hi: 3}},
		{3, true, -1, 2, api.Range{Lo: 3, Hi: 5}},
		{4, false, -1, 3, api.Range{Lo: 3, Hi: 5}},
		{5, false, -1, 3, api.Range{}},
		{math.MaxInt, false, -1, 3, api.Range{}},
	} {
		if got := anywhere.Is(letters(), table, text, c.at); got != c.is {
			t.Error(c.at, got)
		}
		if got := anywhere.Next(letters(), table, text, c.at); got != c.next {
			t.Error(c.at, got)
		}
		if got := anywhere.Previous(letters(), table, text, c.at); got != c.previous {
			t.Error(c.at, got)
		}
		if got, ok := anywhere.Around(letters(), table, text, c.at); got != c.around || ok != (c.around != api.Range{}) {
			t.Error(c.at, got, ok)
		}
	}
}

// checkNothing checks that a sequence has no boundaries and no parts.
func checkNothing(t *testing.T, p api.Property, table api.BreakTable, text []int) {
	t.Helper()
	for at := -2; at < 6; at++ {
		around, ok := anywhere.Around(p, table, text, at)
		if anywhere.Is(p, table, text, at) || anywhere.Next(p, table, text, at) != -1 || anywhere.Previous(p, table, text, at) != -1 || ok || around != (api.Range{}) {
			t.Error(text, at)
		}
	}
}

func TestWithoutBoundaries(t *testing.T) {
	checkNothing(t, letters(), compile(t, "keep /", "A"), nil)
	for _, bad := range badTables(t) {
		checkNothing(t, letters(), bad, []int{0x61, 0x62, 0x63})
		checkNothing(t, letters(), bad, nil)
	}
	empty := compile(t, "break /", "A") // the only position of the empty sequence is a boundary
	if !anywhere.Is(letters(), empty, nil, 0) || anywhere.Next(letters(), empty, nil, -1) != 0 || anywhere.Previous(letters(), empty, nil, 1) != 0 {
		t.Error("the empty sequence")
	}
}

// visited returns the boundaries that are found from a position, forwards or backwards, in this order.
func visited(t *testing.T, at int, step func(at int) int) []int {
	t.Helper()
	var l []int
	for at = step(at); at != -1; at = step(at) {
		if l = append(l, at); len(l) > 99 {
			t.Fatal("no end")
		}
	}
	return l
}

// P31.3

func TestGoingForwardsAndBackwards(t *testing.T) {
	r := rand.New(rand.NewSource(2))
	for i, table := range tables(t) {
		for range 40 {
			text := randomClasses(r, 9)
			for i := range text {
				text[i] += 0x60
			}
			boundaries := segment.Boundaries(letters(), table, text)
			parts := segment.Parts(letters(), table, text)
			for at := -1; at <= len(text)+1; at++ {
				forwards := visited(t, at, func(at int) int { return anywhere.Next(letters(), table, text, at) })
				backwards := visited(t, at, func(at int) int { return anywhere.Previous(letters(), table, text, at) })
				slices.Reverse(backwards)
				found := append(backwards, forwards...)
				if anywhere.Is(letters(), table, text, at) {
					found = append(found, at)
					slices.Sort(found)
				}
				if !slices.Equal(found, boundaries) {
					t.Fatalf("%d: %X from %d: %v, not %v", i, text, at, found, boundaries)
				}
				part, ok := anywhere.Around(letters(), table, text, at)
				if ok != (0 <= at && at < len(text)) || ok && (at < part.Lo || at >= part.Hi || !slices.Contains(parts, part)) {
					t.Fatalf("%d: %X around %d: %v", i, text, at, part)
				}
			}
		}
	}
}
