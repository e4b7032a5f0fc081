package breakauto_test

import (
	"math"
	"math/rand"
	"slices"
	"strconv"
	"strings"
	"testing"

	"unicodetext/api"
	"unicodetext/breakauto"
	"unicodetext/breakrule"
)

var letters = []string{"A", "B", "C", "D", "E", "F"}

// parse returns rules over the first n letters.
func parse(t testing.TB, n int, s string) api.BreakRules {
	t.Helper()
	r, fault := breakrule.Parse(letters[:n], s)
	if fault.Errno != api.OK {
		t.Fatalf("%q: %v", s, fault)
	}
	return r
}

// compile returns the table of rules over the first n letters.
func compile(t testing.TB, n int, s string) api.BreakTable {
	t.Helper()
	table, errno := breakauto.Compile(parse(t, n, s))
	if errno != api.OK {
		t.Fatalf("%q: %v", s, errno)
	}
	return table
}

func sameLists(a, b [][]int) bool {
	return slices.EqualFunc(a, b, func(x, y []int) bool { return slices.Equal(x, y) })
}

func sameAutomata(a, b api.Automaton) bool {
	return sameLists(a.Next, b.Next) && sameLists(a.Marks, b.Marks)
}

func sameTables(a, b api.BreakTable) bool {
	return slices.Equal(a.Classes, b.Classes) && slices.Equal(a.Actions, b.Actions) && sameAutomata(a.Left, b.Left) && sameAutomata(a.Right, b.Right)
}

// lists returns all lists of at most size classes out of n.
func lists(n, size int) [][]int {
	all := [][]int{nil}
	for from, i := 0, 0; i < size; i++ {
		to := len(all)
		for _, l := range all[from:to] {
			for class := range n {
				all = append(all, append(slices.Clone(l), class))
			}
		}
		from = to
	}
	return all
}

// numbered reports whether the states are numbered breadth first and by ascending classes; all of them are reached then.
func numbered(a api.Automaton) bool {
	reached := 1
	for i, next := range a.Next {
		if i >= reached {
			return false
		}
		for _, state := range next {
			if state > reached {
				return false
			}
			if state == reached {
				reached++
			}
		}
	}
	return reached == len(a.Next)
}

// distinct reports whether from any two states some classes lead to different marks. It divides the states into blocks, first by their marks, and then again and again by the blocks of their next states.
func distinct(a api.Automaton) bool {
	blocks := make([]int, len(a.Next))
	count := 1
	for {
		numbers := map[string]int{}
		divided := make([]int, len(blocks))
		for i, next := range a.Next {
			key := strconv.Itoa(blocks[i])
			for _, mark := range a.Marks[i] {
				key += " m" + strconv.Itoa(mark)
			}
			for _, state := range next {
				key += " " + strconv.Itoa(blocks[state])
			}
			if _, ok := numbers[key]; !ok {
				numbers[key] = len(numbers)
			}
			divided[i] = numbers[key]
		}
		if len(numbers) == count {
			return count == len(a.Next)
		}
		blocks, count = divided, len(numbers)
	}
}

// P29.1

func TestCompileSmallTables(t *testing.T) {
	table := compile(t, 2, "keep A / B")
	want := api.BreakTable{
		Classes: []string{"A", "B"},
		Actions: []int{api.Keep},
		Left:    api.Automaton{Next: [][]int{{1, 0}, {1, 0}}, Marks: [][]int{nil, {0}}},
		Right:   api.Automaton{Next: [][]int{{0, 1}, {0, 1}}, Marks: [][]int{nil, {0}}},
	}
	if !sameTables(table, want) {
		t.Error(table)
	}
	single := api.Automaton{Next: [][]int{{0, 0, 0}}, Marks: [][]int{nil}}
	if table := compile(t, 3, ""); !sameTables(table, api.BreakTable{Classes: letters[:3], Left: single, Right: single}) {
		t.Error(table)
	}
	// The start is read before anything else on the left, the end on the right.
	table = compile(t, 2, "must start A / \nkeep / B end\nbreak /")
	want = api.BreakTable{
		Classes: []string{"A", "B"},
		Actions: []int{api.Must, api.Keep, api.Break},
		Left:    api.Automaton{Next: [][]int{{1, 2}, {2, 2}, {2, 2}}, Marks: [][]int{{1, 2}, {0, 1, 2}, {1, 2}}},
		Right:   api.Automaton{Next: [][]int{{1, 2}, {1, 1}, {1, 1}}, Marks: [][]int{{0, 2}, {0, 2}, {0, 1, 2}}},
	}
	if !sameTables(table, want) {
		t.Error(table)
	}
}

func TestCompileNumbersStatesInTheOrderInWhichTheyAreReached(t *testing.T) {
	// A B C is read from state to state; the classes of a row are in their order.
	table := compile(t, 3, "keep A B C / ")
	want := api.Automaton{Next: [][]int{{1, 0, 0}, {1, 2, 0}, {1, 0, 3}, {1, 0, 0}}, Marks: [][]int{nil, nil, nil, {0}}}
	if !sameAutomata(table.Left, want) {
		t.Error(table.Left)
	}
	table = compile(t, 3, "keep / C A B")
	want = api.Automaton{Next: [][]int{{0, 1, 0}, {2, 1, 0}, {0, 1, 3}, {0, 1, 0}}, Marks: [][]int{nil, nil, nil, {0}}}
	if !sameAutomata(table.Right, want) {
		t.Error(table.Right)
	}
}

func TestCompileReturnsTheErrorsOfTheRules(t *testing.T) {
	good := api.Pattern{Kind: api.PatClass, Classes: []int{0}}
	many := api.Pattern{Kind: api.PatCat, Subs: slices.Repeat([]api.Pattern{good}, 3999)}
	// These rules need far too many states, too, but the errors of the rules come first.
	wide := parse(t, 2, "keep A "+strings.Repeat("any ", 12)+"/").Rules[0]
	for _, c := range []struct {
		r    api.BreakRules
		want api.Errno
	}{
		{api.BreakRules{}, api.ErrName},
		{api.BreakRules{Classes: []string{"A", "A"}, Rules: []api.BreakRule{wide}}, api.ErrName},
		{api.BreakRules{Classes: []string{"A", "any"}}, api.ErrName},
		{api.BreakRules{Classes: letters[:2], Rules: []api.BreakRule{wide, {Action: 4, Left: good, Right: good}}}, api.ErrKind},
		{api.BreakRules{Classes: letters[:2], Rules: []api.BreakRule{{Action: api.Keep}}}, api.ErrKind},
		{api.BreakRules{Classes: letters[:2], Rules: []api.BreakRule{wide, {Action: api.Keep, Left: good, Right: many}}}, api.ErrSize},
		{api.BreakRules{Classes: letters[:2], Rules: slices.Repeat([]api.BreakRule{wide}, 101)}, api.ErrSize},
		{api.BreakRules{Classes: letters[:2], Rules: []api.BreakRule{wide}}, api.ErrLimit},
		{api.BreakRules{Classes: letters[:2], Rules: []api.BreakRule{{Action: api.Keep, Left: wide.Right, Right: reversed(wide.Left)}}}, api.ErrLimit},
	} {
		if table, errno := breakauto.Compile(c.r); errno != c.want || !sameTables(table, api.BreakTable{}) {
			t.Errorf("%d rules: %v, not %v", len(c.r.Rules), errno, c.want)
		}
	}
}

// reversed returns the pattern that matches what p matches, backwards.
func reversed(p api.Pattern) api.Pattern {
	r := api.Pattern{Kind: p.Kind, Classes: slices.Clone(p.Classes)}
	for _, sub := range p.Subs {
		r.Subs = append(r.Subs, reversed(sub))
	}
	if p.Kind == api.PatCat {
		slices.Reverse(r.Subs)
	}
	return r
}

// The limit concerns the states of the minimal automata, on each side, not what leads to them.
func TestCompileLimitsTheStates(t *testing.T) {
	r := rand.New(rand.NewSource(6))
	chain := func(n int) string { return strings.Repeat("A ", n) }
	for _, c := range []struct {
		s           string
		left, right int // the states; 0 if there are too many
	}{
		{"keep " + chain(399) + "/", 400, 1},
		{"keep " + chain(400) + "/", 0, 1},
		{"keep / " + chain(399), 1, 400},
		{"keep / " + chain(400), 1, 0},
		{"keep " + chain(399) + "/ " + chain(399), 400, 400},
		{"keep A " + strings.Repeat("any ", 7) + "/", 256, 1},
		{"keep A " + strings.Repeat("any ", 8) + "/", 0, 1},
		{"keep A " + strings.Repeat("any ", 40) + "/", 0, 1},
		{"keep / " + strings.Repeat("any ", 40) + "A", 1, 0},
		{"keep (A | B B)* A " + strings.Repeat("any ", 40) + "/", 0, 1},
		// After the first A only the number of classes that follow it matters, although there are many places where a match may go on.
		{"keep A " + strings.Repeat("any ", 40) + "any* /", 42, 1},
		{"keep / any* " + strings.Repeat("any ", 40) + "A", 1, 42},
		{"keep start any* A " + strings.Repeat("any ", 40) + "any* /", 42, 1},
		{"keep start A " + strings.Repeat("any ", 60) + "/", 63, 1},
		// All of this matches everywhere.
		{"keep (A " + strings.Repeat("any ", 40) + ")* /", 1, 1},
		{"keep any* (A " + strings.Repeat("any ", 40) + "| ) /", 1, 1},
		// And this matches nowhere.
		{"keep A " + strings.Repeat("any ", 40) + "end / start " + strings.Repeat("any ", 40) + "A", 1, 1},
		{"keep A end " + strings.Repeat("any ", 40) + "/", 1, 1},
		// What one rule has too many states for, another alternative makes irrelevant.
		{"keep (A " + strings.Repeat("any ", 40) + "| any) /", 2, 1},
		// All lists of at most 6 classes, and the last 8 classes of longer ones.
		{"keep A " + strings.Repeat("any ", 7) + "/\nkeep B " + strings.Repeat("any ", 6) + "/", 127 + 256, 1},
		{"keep A " + strings.Repeat("any ", 7) + "/\nkeep start " + strings.Repeat("any ", 200) + "/", 0, 1},
	} {
		rules := parse(t, 2, c.s)
		table, errno := breakauto.Compile(rules)
		if c.left == 0 || c.right == 0 {
			if errno != api.ErrLimit || !sameTables(table, api.BreakTable{}) {
				t.Errorf("%.60s: %v", c.s, errno)
			}
			continue
		}
		if errno != api.OK || len(table.Left.Next) != c.left || len(table.Right.Next) != c.right {
			t.Errorf("%.60s: %v with %d and %d states", c.s, errno, len(table.Left.Next), len(table.Right.Next))
		}
		checkTable(t, table)
		l := make([]int, 50)
		for i := range l {
			l[i] = min(r.Intn(7), 1)
		}
		checkDecisions(t, rules, table, l)
	}
}

// checkTable checks that a table that was compiled is valid, and its automata are minimal.
func checkTable(t testing.TB, table api.BreakTable) {
	t.Helper()
	if !breakauto.Valid(table) {
		t.Error("the table is not valid", table)
	}
	for _, a := range []api.Automaton{table.Left, table.Right} {
		if !numbered(a) {
			t.Error("the states have other numbers", a)
		}
		if !distinct(a) {
			t.Error("the automaton is not minimal", a)
		}
	}
}

// randomPattern returns a valid pattern over n classes, the start and the end.
func randomPattern(r *rand.Rand, n, depth int) api.Pattern {
	kind := r.Intn(8)
	switch {
	case depth == 0 || kind < 3:
		if r.Intn(12) == 0 {
			return api.Pattern{Kind: api.PatClass, Classes: []int{n + r.Intn(2)}}
		}
		classes := r.Perm(n)[:1+r.Intn(n)]
		slices.Sort(classes)
		return api.Pattern{Kind: api.PatClass, Classes: classes}
	case kind == 3:
		return api.Pattern{Kind: api.PatStar, Subs: []api.Pattern{randomPattern(r, n, depth-1)}}
	case kind == 4:
		return api.Pattern{Kind: api.PatCat}
	}
	p := api.Pattern{Kind: api.PatCat + r.Intn(2)}
	for range 2 + r.Intn(2) {
		p.Subs = append(p.Subs, randomPattern(r, n, depth-1))
	}
	return p
}

// randomRules returns valid rules over n classes.
func randomRules(r *rand.Rand, n int) api.BreakRules {
	rules := api.BreakRules{Classes: letters[:n]}
	for range r.Intn(5) {
		rules.Rules = append(rules.Rules, api.BreakRule{Action: api.Keep + r.Intn(3), Left: randomPattern(r, n, r.Intn(4)), Right: randomPattern(r, n, r.Intn(4))})
	}
	return rules
}

// marks returns the indices of the rules whose pattern matches, by the definition, an end of the list that consists of the start and the classes, or a beginning of the classes and the end.
func marks(r api.BreakRules, l []int, left bool) []int {
	n := len(r.Classes)
	var matching []int
	for i, rule := range r.Rules {
		whole, p := append([]int{n}, l...), rule.Left
		if !left {
			whole, p = append(slices.Clone(l), n+1), rule.Right
		}
		for at := range len(whole) + 1 {
			if left && breakrule.Match(p, whole[at:]) || !left && breakrule.Match(p, whole[:at]) {
				matching = append(matching, i)
				break
			}
		}
	}
	return matching
}

func TestRandomRulesHaveMinimalAutomataWithTheMarksOfTheDefinition(t *testing.T) {
	r := rand.New(rand.NewSource(1))
	states := 0
	for range 400 {
		n := 1 + r.Intn(3)
		rules := randomRules(r, n)
		table, errno := breakauto.Compile(rules)
		if errno != api.OK {
			t.Fatal(rules, errno)
		}
		checkTable(t, table)
		states = max(states, len(table.Left.Next))
		for _, l := range lists(n, 5) {
			left, right := breakauto.Left(table, l), breakauto.Right(table, l)
			if got, want := table.Left.Marks[left[len(l)]], marks(rules, l, true); !slices.Equal(got, want) {
				t.Fatal(rules, l, got, want)
			}
			if got, want := table.Right.Marks[right[0]], marks(rules, l, false); !slices.Equal(got, want) {
				t.Fatal(rules, l, got, want)
			}
		}
	}
	if states < 10 {
		t.Error("there are only small automata", states)
	}
}

// What is compiled keeps no memory of the rules.
func TestCompileRetainsNothing(t *testing.T) {
	rules := parse(t, 2, "keep A / B\nbreak /")
	rules.Classes = slices.Clone(rules.Classes)
	table, _ := breakauto.Compile(rules)
	table.Classes[0], table.Actions[0], table.Left.Next[0][0], table.Right.Next[0][0] = "X", 9, 9, 9
	if again, _ := breakauto.Compile(rules); !sameTables(again, compile(t, 2, "keep A / B\nbreak /")) || rules.Classes[0] != "A" {
		t.Error(rules, again)
	}
	table = compile(t, 2, "keep A / B\nbreak /")
	for _, l := range slices.Concat(table.Left.Next, table.Right.Next, table.Left.Marks, table.Right.Marks) {
		for i := range l {
			l[i] = 7
		}
		if count := countOf(table, 7); count != len(l) {
			t.Fatal("lists share memory", table)
		}
		for i := range l {
			l[i] = 0
		}
	}
}

// countOf returns how often a number occurs in the automata.
func countOf(table api.BreakTable, number int) int {
	count := 0
	for _, l := range slices.Concat(table.Left.Next, table.Right.Next, table.Left.Marks, table.Right.Marks) {
		for _, n := range l {
			if n == number {
				count++
			}
		}
	}
	return count
}

// oneState returns a valid automaton with one state, over n classes.
func oneState(n int, marks ...int) api.Automaton {
	return api.Automaton{Next: [][]int{make([]int, n)}, Marks: [][]int{marks}}
}

// invalid returns tables that are not valid, with what is wrong.
func invalid() map[string]api.BreakTable {
	all := map[string]api.BreakTable{"nothing": {}}
	add := func(what string, change func(t *api.BreakTable)) {
		two := func() api.Automaton {
			return api.Automaton{Next: [][]int{{1, 0}, {1, 0}}, Marks: [][]int{{1}, {0, 1}}}
		}
		t := api.BreakTable{Classes: []string{"A", "B"}, Actions: []int{api.Keep, api.Break}, Left: two(), Right: two()}
		change(&t)
		all[what] = t
	}
	add("no classes", func(t *api.BreakTable) { t.Classes, t.Left, t.Right = nil, oneState(0), oneState(0) })
	add("more classes than next states", func(t *api.BreakTable) { t.Classes = append(t.Classes, "C") })
	add("a class twice", func(t *api.BreakTable) { t.Classes[1] = "A" })
	add("a class without a name", func(t *api.BreakTable) { t.Classes[1] = "" })
	add("a long name", func(t *api.BreakTable) { t.Classes[1] = strings.Repeat("B", 33) })
	add("a name with a minus", func(t *api.BreakTable) { t.Classes[1] = "B-" })
	add("a word of the grammar", func(t *api.BreakTable) { t.Classes[1] = "attach" })
	add("61 classes", func(t *api.BreakTable) {
		t.Classes, t.Left, t.Right = names(61), oneState(61), oneState(61)
	})
	add("an action 0", func(t *api.BreakTable) { t.Actions[0] = 0 })
	add("an action 4", func(t *api.BreakTable) { t.Actions[1] = 4 })
	add("101 actions", func(t *api.BreakTable) { t.Actions = slices.Repeat([]int{api.Keep}, 101) })
	for side, of := range map[string]func(t *api.BreakTable) *api.Automaton{
		"left":  func(t *api.BreakTable) *api.Automaton { return &t.Left },
		"right": func(t *api.BreakTable) *api.Automaton { return &t.Right },
	} {
		on := func(what string, change func(a *api.Automaton)) {
			add(side+": "+what, func(t *api.BreakTable) { change(of(t)) })
		}
		on("no states", func(a *api.Automaton) { *a = api.Automaton{} })
		on("401 states", func(a *api.Automaton) {
			a.Next, a.Marks = slices.Repeat([][]int{{0, 0}}, 401), make([][]int, 401)
		})
		on("more marks", func(a *api.Automaton) { a.Marks = append(a.Marks, nil) })
		on("fewer marks", func(a *api.Automaton) { a.Marks = a.Marks[:1] })
		on("no next state for a class", func(a *api.Automaton) { a.Next[1] = a.Next[1][:1] })
		on("too many next states", func(a *api.Automaton) { a.Next[0] = append(a.Next[0], 0) })
		on("a negative next state", func(a *api.Automaton) { a.Next[1][1] = -1 })
		on("a next state beyond", func(a *api.Automaton) { a.Next[1][1] = 2 })
		on("a huge next state", func(a *api.Automaton) { a.Next[0][0] = math.MaxInt })
		on("a negative mark", func(a *api.Automaton) { a.Marks[0] = []int{-1} })
		on("a mark beyond", func(a *api.Automaton) { a.Marks[1] = []int{0, 2} })
		on("a mark twice", func(a *api.Automaton) { a.Marks[1] = []int{1, 1} })
		on("marks that descend", func(a *api.Automaton) { a.Marks[1] = []int{1, 0} })
		on("marks without actions", func(a *api.Automaton) { a.Marks[1] = []int{math.MinInt} })
	}
	return all
}

// names returns n names.
func names(n int) []string {
	var l []string
	for i := range n {
		l = append(l, "c"+strconv.Itoa(i))
	}
	return l
}

func TestValid(t *testing.T) {
	for what, table := range invalid() {
		if breakauto.Valid(table) {
			t.Errorf("a table with %s counts as valid", what)
		}
	}
	most := api.Automaton{Next: slices.Repeat([][]int{{0, 399}}, 400), Marks: make([][]int, 400)}
	for _, table := range []api.BreakTable{
		{Classes: []string{"A"}, Left: oneState(1), Right: oneState(1)},
		{Classes: names(60), Actions: slices.Repeat([]int{api.Must}, 100), Left: oneState(60, 0, 99), Right: oneState(60)},
		{Classes: []string{"A", "B"}, Actions: []int{api.Keep}, Left: most, Right: oneState(2, 0)},
		// A table need not be minimal to be valid.
		{Classes: []string{"A", "B"}, Actions: []int{api.Break}, Left: api.Automaton{Next: [][]int{{0, 0}, {1, 1}}, Marks: [][]int{nil, nil}}, Right: oneState(2)},
	} {
		if !breakauto.Valid(table) {
			t.Error("a table does not count as valid", table)
		}
	}
}

// P29.2

func TestLeftRightDecideActions(t *testing.T) {
	table := compile(t, 2, "keep A / B")
	for _, c := range []struct {
		l, left, right, actions []int
	}{
		{nil, []int{0}, []int{0}, []int{api.Break}},
		{[]int{0, 1, 0}, []int{0, 1, 0, 1}, []int{0, 1, 0, 0}, []int{api.Break, api.Keep, api.Break, api.Break}},
		{[]int{1, 1}, []int{0, 0, 0}, []int{1, 1, 0}, []int{api.Break, api.Break, api.Break}},
	} {
		left, right, actions := breakauto.Left(table, c.l), breakauto.Right(table, c.l), breakauto.Actions(table, c.l)
		if !slices.Equal(left, c.left) || !slices.Equal(right, c.right) || !slices.Equal(actions, c.actions) {
			t.Error(c.l, left, right, actions)
		}
	}
	if action, rule := breakauto.Decide(table, []int{0, 1, 0}, 1); action != api.Keep || rule != 0 {
		t.Error(action, rule)
	}
	if action, rule := breakauto.Decide(table, []int{0, 1, 0}, 2); action != api.Break || rule != -1 {
		t.Error(action, rule)
	}
}

func TestDecideTakesTheLeastCommonMark(t *testing.T) {
	table := api.BreakTable{Classes: []string{"A"}, Actions: []int{api.Keep, api.Must, api.Break, api.Must, api.Keep}}
	for _, c := range []struct {
		left, right  []int
		action, rule int
	}{
		{[]int{0, 1, 2}, []int{1, 2}, api.Must, 1},
		{[]int{0, 2, 4}, []int{1, 3, 4}, api.Keep, 4},
		{[]int{2}, []int{0, 1, 2, 3, 4}, api.Break, 2},
		{[]int{0, 2}, []int{1, 3}, api.Break, -1},
		{nil, []int{0}, api.Break, -1},
		{nil, nil, api.Break, -1},
	} {
		table.Left, table.Right = oneState(1, c.left...), oneState(1, c.right...)
		if action, rule := breakauto.Decide(table, []int{0}, 1); action != c.action || rule != c.rule {
			t.Error(c, action, rule)
		}
		if actions := breakauto.Actions(table, []int{0}); !slices.Equal(actions, []int{c.action, c.action}) {
			t.Error(c, actions)
		}
	}
}

func TestTablesAndListsThatAreNotValid(t *testing.T) {
	none := func(table api.BreakTable, l []int) bool {
		return len(breakauto.Left(table, l)) == 0 && len(breakauto.Right(table, l)) == 0 && len(breakauto.Actions(table, l)) == 0
	}
	undecided := func(table api.BreakTable, l []int, at int) bool {
		action, rule := breakauto.Decide(table, l, at)
		return action == api.Break && rule == -1
	}
	for what, table := range invalid() {
		for _, l := range [][]int{nil, {0}, {0, 1, 1}} {
			if !none(table, l) || !undecided(table, l, 0) {
				t.Errorf("a table with %s has results for %v", what, l)
			}
		}
	}
	table := compile(t, 2, "keep /")
	for _, l := range [][]int{{2}, {-1}, {0, 1, 2}, {math.MaxInt}, {math.MinInt, 0}} {
		if !none(table, l) || !undecided(table, l, 0) || !undecided(table, l, len(l)) {
			t.Error(l)
		}
	}
	for _, at := range []int{-1, 3, math.MaxInt, math.MinInt} {
		if !undecided(table, []int{0, 1}, at) {
			t.Error(at)
		}
	}
	if undecided(table, []int{0, 1}, 2) || undecided(table, nil, 0) {
		t.Error("nothing is decided")
	}
}

// P29.3

// checkDecisions checks that the table decides all positions of a list as the rules do.
func checkDecisions(t testing.TB, rules api.BreakRules, table api.BreakTable, l []int) {
	t.Helper()
	actions := breakauto.Actions(table, l)
	for at := range len(l) + 1 {
		action, rule := breakauto.Decide(table, l, at)
		wantAction, wantRule := breakrule.Decide(rules, l, at)
		if action != wantAction || rule != wantRule || actions[at] != action {
			t.Fatal(rules, l, at, action, rule, actions[at], wantAction, wantRule)
		}
	}
}

func TestTablesDecideAsTheirRules(t *testing.T) {
	r := rand.New(rand.NewSource(2))
	for range 200 {
		n := 1 + r.Intn(3)
		rules := randomRules(r, n)
		table, errno := breakauto.Compile(rules)
		if errno != api.OK {
			t.Fatal(rules, errno)
		}
		for _, l := range lists(n, 4) {
			checkDecisions(t, rules, table, l)
		}
		long := make([]int, 30)
		for i := range long {
			long[i] = r.Intn(n)
		}
		checkDecisions(t, rules, table, long)
	}
}

// Rules as they are used for graphemes and words, with pairs that are counted and attached classes.
func TestTablesOfUsualRules(t *testing.T) {
	r := rand.New(rand.NewSource(3))
	for _, s := range []string{
		"keep A / B\nbreak [C A B] /\nbreak / [C A B]\nkeep any / [D E]\nkeep start (F F)* F / F\nkeep [^F] (F F)* F / F\nbreak /",
		"must A /\nattach [E F]\nletter = [B C]\nkeep letter / letter\nkeep letter / D letter\nkeep letter D / letter\nkeep B D* / [^A B C]* C end\nbreak /",
		"keep A (B C* | D)+ E? / F (A | start) | end\nmust end / start\nkeep start any / any end",
	} {
		rules := parse(t, 6, s)
		table, errno := breakauto.Compile(rules)
		if errno != api.OK {
			t.Fatal(s, errno)
		}
		checkTable(t, table)
		for range 150 {
			l := make([]int, r.Intn(14))
			for i := range l {
				l[i] = r.Intn(6)
			}
			checkDecisions(t, rules, table, l)
		}
	}
}

func TestStatesDoNotDependOnTheOtherSide(t *testing.T) {
	r := rand.New(rand.NewSource(4))
	for range 100 {
		n := 1 + r.Intn(3)
		table, _ := breakauto.Compile(randomRules(r, n))
		all := lists(n, 3)
		for range 50 {
			before, after, other := all[r.Intn(len(all))], all[r.Intn(len(all))], all[r.Intn(len(all))]
			one, two := slices.Concat(before, after), slices.Concat(before, other)
			if !slices.Equal(breakauto.Left(table, one)[:len(before)+1], breakauto.Left(table, two)[:len(before)+1]) {
				t.Fatal(table, one, two)
			}
			one, two = slices.Concat(before, after), slices.Concat(other, after)
			if !slices.Equal(breakauto.Right(table, one)[len(before):], breakauto.Right(table, two)[len(other):]) {
				t.Fatal(table, one, two)
			}
		}
	}
}

// As many classes, rules and parts as permitted.
func TestCompileLargeRules(t *testing.T) {
	var rows []string
	for i := range 100 {
		rows = append(rows, "keep c"+strconv.Itoa(i%60)+" [c1 c2]* / c"+strconv.Itoa(i*7%60)+" c"+strconv.Itoa(i%5))
	}
	rules, fault := breakrule.Parse(names(60), strings.Join(rows, "\n"))
	if fault.Errno != api.OK {
		t.Fatal(fault)
	}
	table, errno := breakauto.Compile(rules)
	if errno != api.OK {
		t.Fatal(errno)
	}
	checkTable(t, table)
	r := rand.New(rand.NewSource(5))
	for range 20 {
		l := make([]int, 20)
		for i := range l {
			l[i] = r.Intn(10)
		}
		checkDecisions(t, rules, table, l)
	}
}
