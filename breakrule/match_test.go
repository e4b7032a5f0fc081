package breakrule_test

import (
	"math"
	"math/rand"
	"regexp"
	"slices"
	"strings"
	"testing"

	"unicodetext/api"
	"unicodetext/breakrule"
)

// P28.1

func TestMatch(t *testing.T) {
	a, b := class(0), class(1)
	for _, c := range []struct {
		p       api.Pattern
		matches [][]int
		others  [][]int
	}{
		{a, [][]int{{0}}, [][]int{nil, {1}, {0, 0}, {-1}}},
		{class(0, 2, 7), [][]int{{0}, {2}, {7}}, [][]int{nil, {1}, {3}, {0, 2}}},
		{class(math.MaxInt), [][]int{{math.MaxInt}}, [][]int{nil, {0}, {math.MinInt}}},
		{class(0, math.MaxInt), [][]int{{math.MaxInt}, {0}}, [][]int{nil, {1}}},
		{cat(), [][]int{nil, {}}, [][]int{{0}}},
		{cat(a, b), [][]int{{0, 1}}, [][]int{nil, {0}, {1}, {1, 0}, {0, 1, 0}, {0, 0, 1}}},
		{cat(a, cat(), b), [][]int{{0, 1}}, [][]int{{0}, {1, 0}}},
		{alt(a, b), [][]int{{0}, {1}}, [][]int{nil, {2}, {0, 1}}},
		{alt(cat(), cat(a, b)), [][]int{nil, {0, 1}}, [][]int{{0}, {1}, {0, 1, 0, 1}}},
		{star(a), [][]int{nil, {0}, {0, 0, 0}}, [][]int{{1}, {0, 1}, {0, 1, 0}}},
		{star(cat(a, b)), [][]int{nil, {0, 1}, {0, 1, 0, 1}}, [][]int{{0}, {0, 1, 0}, {1, 0}}},
		{star(cat()), [][]int{nil}, [][]int{{0}}},
		{star(star(a)), [][]int{nil, {0}, {0, 0}}, [][]int{{1}}},
		{star(alt(star(a), star(b))), [][]int{nil, {0, 1, 1, 0}}, [][]int{{2}, {0, 2}}},
		{cat(star(a), star(a), a), [][]int{{0}, {0, 0, 0}}, [][]int{nil, {0, 1}}},
		{cat(star(class(0, 1)), a, class(0, 1)), [][]int{{0, 0}, {1, 1, 0, 1}}, [][]int{{0, 1, 1}, {0}}},
	} {
		for _, l := range c.matches {
			if !breakrule.Match(c.p, l) {
				t.Errorf("%v does not match %v", c.p, l)
			}
		}
		for _, l := range c.others {
			if breakrule.Match(c.p, l) {
				t.Errorf("%v matches %v", c.p, l)
			}
		}
	}
}

func TestMatchOfPatternsThatAreNotValid(t *testing.T) {
	for what, p := range invalidPatterns() {
		for _, l := range [][]int{nil, {0}, {-1}, {0, 0}, {0, 1}, {0, 1, 0}} {
			if breakrule.Match(p, l) {
				t.Errorf("%s: %v is matched", what, l)
			}
		}
	}
	if !breakrule.Match(nested(16), []int{0, 0}) {
		t.Error("16 levels are too many")
	}
	if !breakrule.Match(cat(alt(class(0), class(5)), class(0, 1, 5, 99)), []int{5, 99}) {
		t.Error("there may be any number of classes")
	}
	if !breakrule.Match(wide(9000), make([]int, 8999)) || breakrule.Match(wide(9000), make([]int, 8998)) {
		t.Error("a pattern may have any number of parts")
	}
}

// randomPattern returns a valid pattern over the classes from 0 to n+1, of which the last two are alone.
func randomPattern(r *rand.Rand, n, levels int) api.Pattern {
	kind := r.Intn(7)
	if levels == 1 {
		kind = r.Intn(4)
	}
	switch kind {
	case 0:
		return cat()
	case 1, 2, 3:
		if r.Intn(6) == 0 {
			return class(n + r.Intn(2))
		}
		classes := r.Perm(n)[:1+r.Intn(n)]
		slices.Sort(classes)
		return class(classes...)
	case 4:
		return star(randomPattern(r, n, levels-1))
	}
	var subs []api.Pattern
	for range 2 + r.Intn(2) {
		subs = append(subs, randomPattern(r, n, levels-1))
	}
	if kind == 5 {
		return cat(subs...)
	}
	return alt(subs...)
}

// expression returns a regular expression that matches letters as the pattern matches classes.
func expression(p api.Pattern) string {
	var subs []string
	for _, sub := range p.Subs {
		subs = append(subs, expression(sub))
	}
	switch p.Kind {
	case api.PatClass:
		return "[" + letters(p.Classes) + "]"
	case api.PatCat:
		return "(?:" + strings.Join(subs, "") + ")"
	case api.PatAlt:
		return "(?:" + strings.Join(subs, "|") + ")"
	}
	return "(?:" + subs[0] + "|)*"
}

func letters(l []int) string {
	s := make([]byte, len(l))
	for i, c := range l {
		s[i] = byte('a' + c)
	}
	return string(s)
}

// lists returns all lists of at most most classes.
func lists(n, most int) [][]int {
	all := [][]int{nil}
	level := all
	for range most {
		var longer [][]int
		for _, l := range level {
			for c := range n {
				longer = append(longer, append(slices.Clone(l), c))
			}
		}
		level = longer
		all = append(all, level...)
	}
	return all
}

func TestMatchAgreesWithRegularExpressions(t *testing.T) {
	r := rand.New(rand.NewSource(1))
	short := lists(4, 4)
	for range 1500 {
		p := randomPattern(r, 2, 1+r.Intn(4))
		re := regexp.MustCompile("^" + expression(p) + "$")
		for _, l := range short {
			if got, want := breakrule.Match(p, l), re.MatchString(letters(l)); got != want {
				t.Fatal(p, l, got)
			}
		}
	}
}

func TestMatchOfLongLists(t *testing.T) {
	a, b := class(0), class(0, 1)
	long := make([]int, 5000)
	hard := cat(star(star(alt(a, cat(a, a), b))), star(star(b)), star(a), class(2))
	if breakrule.Match(hard, long) || !breakrule.Match(hard, append(slices.Clone(long), 2)) {
		t.Error("a long list is not matched")
	}
	if !breakrule.Match(star(b), make([]int, 1<<17)) {
		t.Error("a long list is not matched")
	}
}

// P28.2

func TestDecide(t *testing.T) {
	const a, b, c = 0, 1, 2
	crlf := "keep A / B\nbreak /"
	for _, x := range []struct {
		s         string
		l         []int
		at        int
		action, i int
	}{
		{crlf, []int{a, b}, 1, api.Keep, 0},
		{crlf, []int{a, b}, 0, api.Break, 1},
		{crlf, []int{a, b}, 2, api.Break, 1},
		{crlf, []int{b, a}, 1, api.Break, 1},
		{crlf, []int{a, a, b, b}, 2, api.Keep, 0},
		{crlf, nil, 0, api.Break, 1},
		{"", []int{a}, 0, api.Break, -1},
		{"keep A / B", []int{b, a}, 1, api.Break, -1},
		{"must A / B", []int{a, b}, 1, api.Must, 0},
		{"must /\nkeep A / B", []int{a, b}, 1, api.Must, 0},
		{"keep start / ", []int{a, b}, 0, api.Keep, 0},
		{"keep start / ", []int{a, b}, 1, api.Break, -1},
		{"keep start A / ", []int{a, b}, 1, api.Keep, 0},
		{"keep start A / ", []int{a, a, b}, 2, api.Break, -1},
		{"keep / end", []int{a, b}, 2, api.Keep, 0},
		{"keep / end", []int{a, b}, 1, api.Break, -1},
		{"keep / B end", []int{a, b}, 1, api.Keep, 0},
		{"keep / B end", []int{a, b, b}, 1, api.Break, -1},
		{"keep start / end", nil, 0, api.Keep, 0},
		{"keep start / end", []int{a}, 0, api.Break, -1},
		{"keep / start", nil, 0, api.Break, -1},
		{"keep end / ", nil, 0, api.Break, -1},
		{"keep any / any", []int{a}, 0, api.Break, -1},
		{"keep any / any", []int{a}, 1, api.Break, -1},
		{"keep any / any", []int{a, b}, 1, api.Keep, 0},
		{"keep A B* / C", []int{a, b, b, c}, 3, api.Keep, 0},
		{"keep A B* / C", []int{a, c}, 1, api.Keep, 0},
		{"keep A B* / C", []int{b, b, c}, 2, api.Break, -1},
		{"keep A / B* C", []int{a, b, b, c}, 1, api.Keep, 0},
		{"keep A / B* C", []int{a, b, b, a}, 1, api.Break, -1},
		{"keep A B / C A", []int{a, b, c, a}, 2, api.Keep, 0},
		{"keep A B / C A", []int{b, a, a, c}, 2, api.Break, -1},
		{"keep (start|B) (A A)* A / A", []int{a, a, a, a, a}, 1, api.Keep, 0},
		{"keep (start|B) (A A)* A / A", []int{a, a, a, a, a}, 2, api.Break, -1},
		{"keep (start|B) (A A)* A / A", []int{c, b, a, a, a, a}, 3, api.Keep, 0},
		{"keep (start|B) (A A)* A / A", []int{c, a, a}, 2, api.Break, -1},
		{"break A / A\nkeep A / any\nmust /", []int{a, a, b}, 1, api.Break, 0},
		{"break A / A\nkeep A / any\nmust /", []int{a, a, b}, 2, api.Keep, 1},
		{"break A / A\nkeep A / any\nmust /", []int{a, a, b}, 3, api.Must, 2},
		{"attach C\nkeep A / B", []int{a, c, c, b}, 3, api.Keep, 1},
		{"attach C\nkeep A / B", []int{a, c, c, b}, 2, api.Keep, 0},
		{"attach C\nkeep A / B", []int{b, c, c, b}, 3, api.Break, -1},
	} {
		r, fault := breakrule.Parse(abc, x.s)
		if fault != (api.Fault{}) {
			t.Fatal(x.s, fault)
		}
		if action, i := breakrule.Decide(r, x.l, x.at); action != x.action || i != x.i {
			t.Errorf("%q: Decide(%v, %d) = %d, %d", x.s, x.l, x.at, action, i)
		}
	}
}

func TestDecideWithoutARule(t *testing.T) {
	all := rules(abc, rule(api.Keep, cat(), cat()))
	for _, c := range []struct {
		r  api.BreakRules
		l  []int
		at int
	}{
		{all, []int{0, 1}, -1},
		{all, []int{0, 1}, 3},
		{all, nil, 1},
		{all, []int{0}, math.MinInt},
		{all, []int{0}, math.MaxInt},
		{all, []int{0, 3}, 0},
		{all, []int{4, 0}, 2},
		{all, []int{0, -1, 0}, 0},
		{all, []int{0, math.MaxInt}, 1},
		{rules(nil, all.Rules...), nil, 0},
		{rules([]string{"any"}, all.Rules...), []int{0}, 0},
		{rules(abc, slices.Repeat(all.Rules, 101)...), []int{0}, 0},
		{rules(abc, all.Rules[0], rule(api.Keep, wide(4000), cat())), []int{0}, 0},
		{rules(abc, all.Rules[0], rule(9, cat(), cat())), []int{0}, 0},
		{rules(abc, all.Rules[0], rule(api.Keep, class(5), cat())), []int{0}, 0},
		{rules(abc), []int{0}, 0},
	} {
		if action, i := breakrule.Decide(c.r, c.l, c.at); action != api.Break || i != -1 {
			t.Errorf("Decide(%v, %v, %d) = %d, %d", c.r, c.l, c.at, action, i)
		}
	}
	if action, i := breakrule.Decide(all, []int{0, 2}, 2); action != api.Keep || i != 0 {
		t.Error(action, i)
	}
}

// decision says by the definition, and by Match, what is decided.
func decision(r api.BreakRules, l []int, at int) (int, int) {
	n := len(r.Classes)
	before := slices.Concat([]int{n}, l[:at])
	after := slices.Concat(l[at:], []int{n + 1})
	for i, x := range r.Rules {
		left, right := false, false
		for from := range len(before) + 1 {
			left = left || breakrule.Match(x.Left, before[from:])
		}
		for to := range len(after) + 1 {
			right = right || breakrule.Match(x.Right, after[:to])
		}
		if left && right {
			return x.Action, i
		}
	}
	return api.Break, -1
}

func randomRules(r *rand.Rand) api.BreakRules {
	n := 1 + r.Intn(3)
	all := rules(abc[:n])
	for range r.Intn(4) {
		all.Rules = append(all.Rules, rule(1+r.Intn(3), randomPattern(r, n, 1+r.Intn(4)), randomPattern(r, n, 1+r.Intn(4))))
	}
	return all
}

func TestDecideAgreesWithTheDefinition(t *testing.T) {
	r := rand.New(rand.NewSource(2))
	for range 2000 {
		all := randomRules(r)
		l := make([]int, r.Intn(6))
		for i := range l {
			l[i] = r.Intn(len(all.Classes))
		}
		for at := range len(l) + 1 {
			action, i := breakrule.Decide(all, l, at)
			if wantAction, want := decision(all, l, at); action != wantAction || i != want {
				t.Fatal(all, l, at, action, i, want)
			}
		}
	}
}

// P28.3

func TestTextIsReadAsTheRules(t *testing.T) {
	r := rand.New(rand.NewSource(3))
	for range 5000 {
		all := randomRules(r)
		checkText(t, all)
	}
	a, b := class(0), class(1)
	for _, p := range []api.Pattern{
		cat(), a, class(3), class(4), class(0, 1), class(0, 2), class(0, 1, 2), star(cat()), star(star(star(a))), star(cat(a, b)), star(alt(a, b)),
		cat(cat(), cat()), cat(cat(a, b), cat()), cat(star(a), star(star(b))), cat(alt(a, b), a), cat(a, cat(b, cat(a, b))),
		alt(cat(), cat()), alt(a, cat()), alt(alt(a, b), cat()), alt(cat(a, alt(a, cat())), star(b)), alt(cat(alt(cat(), cat()), star(cat())), alt(cat(), a)),
		nested(16), wide(3990),
	} {
		checkText(t, rules(abc, rule(api.Keep, p, cat()), rule(api.Break, cat(), class(3))))
		checkText(t, rules(abc, rule(api.Must, class(4), p)))
	}
	checkText(t, rules([]string{"x"}, rule(api.Keep, class(1), class(0)), rule(api.Keep, class(2), star(class(1)))))
	checkText(t, rules([]string{"x", "y"}, rule(api.Keep, class(2), class(0)), rule(api.Keep, class(3), class(0, 1))))
	checkText(t, rules(abc))
	seven := []string{"A", "B", "C", "AB", "D", "E9", "_"}
	for range 2000 {
		checkText(t, rules(seven, rule(1+r.Intn(3), randomPattern(r, 7, 1+r.Intn(4)), randomPattern(r, 7, 1+r.Intn(4)))))
	}
}

// checkText checks that Parse reads Text as the rules, a line for each.
func checkText(t *testing.T, r api.BreakRules) {
	t.Helper()
	s, errno := breakrule.Text(r)
	if errno != api.OK {
		t.Fatal(r, errno)
	}
	got, fault := breakrule.Parse(r.Classes, s)
	if !sameRules(got, r) || fault != (api.Fault{}) {
		t.Fatalf("%q: %v, %v, not %v", s, got, fault, r)
	}
	for i, line := range slices.Collect(strings.Lines(s)) {
		one, fault := breakrule.Parse(r.Classes, line)
		if !sameRules(one, rules(r.Classes, r.Rules[i])) || fault != (api.Fault{}) {
			t.Fatalf("%q: %v, %v", line, one, fault)
		}
	}
}

// P28.4

func TestParseOfTextDecidesAsTheRules(t *testing.T) {
	r := rand.New(rand.NewSource(4))
	for range 300 {
		all := randomRules(r)
		s, _ := breakrule.Text(all)
		read, _ := breakrule.Parse(all.Classes, s)
		for _, l := range lists(len(all.Classes), 3) {
			for at := range len(l) + 1 {
				action, i := breakrule.Decide(all, l, at)
				if other, j := breakrule.Decide(read, l, at); action != other || i != j {
					t.Fatal(all, l, at, action, i, other, j)
				}
			}
		}
	}
}

func TestRulesAfterOneWithEmptyPatternsHaveNoEffect(t *testing.T) {
	r := rand.New(rand.NewSource(5))
	for range 500 {
		all := randomRules(r)
		all.Rules = append(all.Rules, rule(1+r.Intn(3), cat(), cat()))
		more := rules(all.Classes, slices.Concat(all.Rules, []api.BreakRule{rule(api.Keep, cat(), cat()), rule(api.Must, class(0), cat())})...)
		for _, l := range lists(len(all.Classes), 2) {
			for at := range len(l) + 1 {
				action, i := breakrule.Decide(all, l, at)
				if other, j := breakrule.Decide(more, l, at); action != other || i != j || i < 0 {
					t.Fatal(all, l, at, action, i, other, j)
				}
			}
		}
	}
}
