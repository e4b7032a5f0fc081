package standard_test

import (
	"hash/fnv"
	"math"
	"math/rand"
	"reflect"
	"slices"
	"strings"
	"sync"
	"testing"

	"unicodetext/api"
	"unicodetext/breakauto"
	"unicodetext/breakrule"
	"unicodetext/segment"
	"unicodetext/standard"
)

var kinds = []int{api.Graphemes, api.Words, api.Sentences, api.Lines}

var otherKinds = []int{0, 5, -1, math.MinInt, math.MaxInt}

// contents says for each kind how many lines its rules have, how they begin and end, and what their sum by FNV is.
var contents = map[int]struct {
	names       string
	lines       int
	first, last string
	sum         uint64
}{
	api.Graphemes: {"Other CR LF Control Extend Joiner Region Prepend Spacing L V T LV LVT Picture", 13, "keep CR / LF", "break /", 0x7C67015E8EFA00D9},
	api.Words:     {"Other CR LF Newline Extend Joiner Format Katakana Letter Hebrew MidLetter MidNumber MidBoth Single Double Numeric Connector Region Space", 25, "keep CR / LF", "break /", 0xAD06671FBB937297},
	api.Sentences: {"Other CR LF Separator Extend Format Space Lower Upper Letter Numeric Point Stop Continue Close", 12, "keep CR / LF", "keep any / any", 0x11FC4C02FD10C411},
	api.Lines:     {"Other Mandatory CR LF Newline Space ZeroSpace Joiner Combining WordJoiner Glue Open CloseP Exclam Symbol Infix Quote NonStarter Hyphen After Before Both Numeric Prefix Postfix Ideograph Inseparable Region", 39, "must Mandatory /", "keep [^Region Combining Joiner] (Region Region)* Region / Region", 0x557E2763B0DA84DA},
}

// P32.1

func TestClassesAndRules(t *testing.T) {
	for _, kind := range kinds {
		want := contents[kind]
		if got := strings.Join(standard.Classes(kind), " "); got != want.names {
			t.Error(kind, got)
		}
		rules := standard.Rules(kind)
		l := strings.Split(rules, "\n")
		if len(l) != want.lines+1 || l[0] != want.first || l[len(l)-2] != want.last || l[len(l)-1] != "" {
			t.Error(kind, len(l), l[0], l[len(l)-2])
		}
		sum := fnv.New64()
		sum.Write([]byte(rules))
		if sum.Sum64() != want.sum {
			t.Errorf("%d: 0x%X", kind, sum.Sum64())
		}
	}
}

func TestParsedAndTable(t *testing.T) {
	for _, kind := range kinds {
		rules, fault := breakrule.Parse(standard.Classes(kind), standard.Rules(kind))
		if got := standard.Parsed(kind); fault != (api.Fault{}) || !reflect.DeepEqual(got, rules) {
			t.Error(kind, fault)
		}
		table, errno := breakauto.Compile(rules)
		if got := standard.Table(kind); errno != api.OK || !reflect.DeepEqual(copyOf(got), copyOf(table)) {
			t.Error(kind, errno)
		}
	}
}

// copyOf returns a copy of a table in which no list is nil, because empty and nil lists are equal.
func copyOf(t api.BreakTable) api.BreakTable {
	lists := func(l [][]int) [][]int {
		var all [][]int
		for _, list := range l {
			all = append(all, append([]int{}, list...))
		}
		return all
	}
	automaton := func(a api.Automaton) api.Automaton { return api.Automaton{Next: lists(a.Next), Marks: lists(a.Marks)} }
	return api.BreakTable{Classes: t.Classes, Actions: t.Actions, Left: automaton(t.Left), Right: automaton(t.Right)}
}

func TestOtherKinds(t *testing.T) {
	for _, kind := range otherKinds {
		if l, s := standard.Classes(kind), standard.Rules(kind); len(l) != 0 || s != "" {
			t.Error(kind, l, s)
		}
		if rules := standard.Parsed(kind); len(rules.Classes) != 0 || len(rules.Rules) != 0 {
			t.Error(kind, rules)
		}
		if table := standard.Table(kind); !reflect.DeepEqual(copyOf(table), copyOf(api.BreakTable{})) {
			t.Error(kind, table)
		}
	}
}

func TestResultsAreNew(t *testing.T) {
	for _, kind := range kinds {
		before := copyOf(standard.Table(kind))
		table, rules, names := standard.Table(kind), standard.Parsed(kind), standard.Classes(kind)
		clear(table.Classes)
		clear(table.Actions)
		for _, l := range [][][]int{table.Left.Next, table.Left.Marks, table.Right.Next, table.Right.Marks} {
			for _, list := range l {
				clear(list)
			}
			clear(l)
		}
		clear(rules.Classes)
		clear(rules.Rules)
		clear(names)
		if !reflect.DeepEqual(copyOf(standard.Table(kind)), before) || len(standard.Classes(kind)[0]) == 0 || standard.Parsed(kind).Rules[0].Action == 0 {
			t.Error(kind)
		}
	}
}

func TestTablesAreMadeOnceForAllGoroutines(t *testing.T) {
	var group sync.WaitGroup
	for i := range 20 {
		group.Go(func() {
			kind := kinds[i%len(kinds)]
			if table := standard.Table(kind); !slices.Equal(table.Classes, standard.Classes(kind)) {
				t.Error(kind)
			}
		})
	}
	group.Wait()
}

// P32.2

func TestRulesAndTablesAreValid(t *testing.T) {
	for _, kind := range kinds {
		if errno := breakrule.Check(standard.Parsed(kind)); errno != api.OK {
			t.Error(kind, errno)
		}
		if table := standard.Table(kind); !breakauto.Valid(table) || len(table.Actions) == 0 {
			t.Error(kind)
		}
	}
}

// indices returns the indices of the names of classes.
func indices(t *testing.T, kind int, names ...string) []int {
	t.Helper()
	var l []int
	for _, name := range names {
		class := slices.Index(standard.Classes(kind), name)
		if class < 0 {
			t.Fatal(kind, name)
		}
		l = append(l, class)
	}
	return l
}

func TestNoKindDividesCRAndLF(t *testing.T) {
	r := rand.New(rand.NewSource(1))
	for _, kind := range kinds {
		table, rules := standard.Table(kind), standard.Parsed(kind)
		pair := indices(t, kind, "CR", "LF")
		for range 3000 {
			l := randomClasses(r, len(table.Classes), 6)
			at := len(l)
			l = slices.Concat(l, pair, randomClasses(r, len(table.Classes), 6))
			if action, _ := breakauto.Decide(table, l, at+1); action != api.Keep {
				t.Fatal(kind, l, at, action)
			}
			if action, _ := breakrule.Decide(rules, l, at+1); action != api.Keep {
				t.Fatal(kind, l, at, action)
			}
		}
	}
}

func randomClasses(r *rand.Rand, n, most int) []int {
	l := make([]int, r.Intn(most+1))
	for i := range l {
		l[i] = r.Intn(n)
	}
	return l
}

func TestNoPartOfGraphemesIsEmpty(t *testing.T) {
	r := rand.New(rand.NewSource(2))
	table := standard.Table(api.Graphemes)
	p := api.Property{Names: table.Classes}
	for i := 1; i < len(table.Classes); i++ {
		p.Spans = append(p.Spans, api.Span{Lo: i, Hi: i, Value: i})
	}
	for range 1000 {
		text := randomClasses(r, len(table.Classes), 12)
		end := 0
		for _, part := range segment.Parts(p, table, text) {
			if part.Lo != end || part.Lo >= part.Hi {
				t.Fatal(text, part)
			}
			end = part.Hi
		}
		if end != len(text) {
			t.Fatal(text, end)
		}
	}
}
