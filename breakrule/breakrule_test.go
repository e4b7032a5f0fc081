package breakrule_test

import (
	"math"
	"slices"
	"strconv"
	"strings"
	"testing"

	"unicodetext/api"
	"unicodetext/breakrule"
)

// abc is three classes; 3 is the start, and 4 the end.
var abc = []string{"A", "B", "C"}

func class(classes ...int) api.Pattern {
	return api.Pattern{Kind: api.PatClass, Classes: classes}
}

func cat(subs ...api.Pattern) api.Pattern {
	return api.Pattern{Kind: api.PatCat, Subs: subs}
}

func alt(subs ...api.Pattern) api.Pattern {
	return api.Pattern{Kind: api.PatAlt, Subs: subs}
}

func star(sub api.Pattern) api.Pattern {
	return api.Pattern{Kind: api.PatStar, Subs: []api.Pattern{sub}}
}

func rule(action int, left, right api.Pattern) api.BreakRule {
	return api.BreakRule{Action: action, Left: left, Right: right}
}

func rules(classes []string, l ...api.BreakRule) api.BreakRules {
	return api.BreakRules{Classes: classes, Rules: l}
}

func samePattern(a, b api.Pattern) bool {
	return a.Kind == b.Kind && slices.Equal(a.Classes, b.Classes) && slices.EqualFunc(a.Subs, b.Subs, samePattern)
}

func sameRules(a, b api.BreakRules) bool {
	return slices.Equal(a.Classes, b.Classes) && slices.EqualFunc(a.Rules, b.Rules, func(x, y api.BreakRule) bool {
		return x.Action == y.Action && samePattern(x.Left, y.Left) && samePattern(x.Right, y.Right)
	})
}

// nested returns a pattern with this number of levels.
func nested(levels int) api.Pattern {
	p := class(0)
	for range levels - 1 {
		p = star(p)
	}
	return p
}

// wide returns a pattern with this number of parts, at least 3.
func wide(parts int) api.Pattern {
	return cat(slices.Repeat([]api.Pattern{class(0)}, parts-1)...)
}

// cyclic returns a pattern that contains itself.
func cyclic() api.Pattern {
	p := cat(class(0), class(1), class(0))
	p.Subs[0] = p
	p.Subs[2] = p
	return p
}

// invalidPatterns holds patterns that are not valid, whatever the classes are.
func invalidPatterns() map[string]api.Pattern {
	return map[string]api.Pattern{
		"zero":               {},
		"kind 0":             {Kind: 0, Classes: []int{0}},
		"kind 5":             {Kind: 5, Classes: []int{0}},
		"kind -1":            {Kind: -1, Subs: []api.Pattern{class(0)}},
		"kind MaxInt":        {Kind: math.MaxInt},
		"no classes":         class(),
		"equal classes":      class(0, 0),
		"descending":         class(1, 0),
		"later descending":   class(0, 1, 1),
		"negative":           class(-1),
		"negative of two":    class(-1, 0),
		"least":              class(math.MinInt),
		"class with sub":     {Kind: api.PatClass, Classes: []int{0}, Subs: []api.Pattern{class(0)}},
		"cat of one":         cat(class(0)),
		"cat with classes":   {Kind: api.PatCat, Classes: []int{0}},
		"cat of two, class":  {Kind: api.PatCat, Classes: []int{0}, Subs: []api.Pattern{class(0), class(0)}},
		"alt of none":        alt(),
		"alt of one":         alt(class(0)),
		"alt with classes":   {Kind: api.PatAlt, Classes: []int{0}, Subs: []api.Pattern{class(0), class(0)}},
		"star of none":       {Kind: api.PatStar},
		"star of two":        {Kind: api.PatStar, Subs: []api.Pattern{class(0), class(0)}},
		"star with classes":  {Kind: api.PatStar, Classes: []int{0}, Subs: []api.Pattern{class(0)}},
		"17 levels":          nested(17),
		"17 levels at last":  cat(class(0), alt(class(0), nested(15))),
		"100 levels":         nested(100),
		"cyclic":             cyclic(),
		"invalid last":       cat(class(0), class(1), class()),
		"invalid within alt": alt(class(0), star(cat(class(0), class(1, 0)))),
	}
}

// P28.1

func TestCheckOfNames(t *testing.T) {
	many := func(n int) []string {
		var l []string
		for i := range n {
			l = append(l, "c"+strconv.Itoa(i))
		}
		return l
	}
	for _, c := range []struct {
		classes []string
		want    api.Errno
	}{
		{abc, api.OK},
		{[]string{"x"}, api.OK},
		{[]string{"_", "0", "9a", "Keep", "ANY", "any_", "starts"}, api.OK},
		{[]string{strings.Repeat("x", 32)}, api.OK},
		{many(60), api.OK},
		{nil, api.ErrName},
		{many(61), api.ErrName},
		{[]string{""}, api.ErrName},
		{[]string{"A", ""}, api.ErrName},
		{[]string{strings.Repeat("x", 33)}, api.ErrName},
		{[]string{"A", "B", "A"}, api.ErrName},
		{[]string{"A", "A"}, api.ErrName},
		{[]string{"A B"}, api.ErrName},
		{[]string{"A-B"}, api.ErrName},
		{[]string{" A"}, api.ErrName},
		{[]string{"A\n"}, api.ErrName},
		{[]string{"@"}, api.ErrName},
		{[]string{"["}, api.ErrName},
		{[]string{"`"}, api.ErrName},
		{[]string{"{"}, api.ErrName},
		{[]string{"/"}, api.ErrName},
		{[]string{":"}, api.ErrName},
		{[]string{"\u00e9"}, api.ErrName},
		{[]string{"\xff"}, api.ErrName},
		{[]string{"A", "keep"}, api.ErrName},
		{[]string{"break"}, api.ErrName},
		{[]string{"must"}, api.ErrName},
		{[]string{"attach"}, api.ErrName},
		{[]string{"any"}, api.ErrName},
		{[]string{"start"}, api.ErrName},
		{[]string{"end"}, api.ErrName},
	} {
		if got := breakrule.Check(rules(c.classes)); got != c.want {
			t.Errorf("Check of the classes %q = %d", c.classes, got)
		}
		wantFault := api.Fault{Errno: c.want}
		if _, fault := breakrule.Parse(c.classes, ""); fault != wantFault {
			t.Errorf("Parse with the classes %q = %v", c.classes, fault)
		}
		if _, errno := breakrule.Text(rules(c.classes)); errno != c.want {
			t.Errorf("Text with the classes %q = %d", c.classes, errno)
		}
	}
}

func TestCheckOfNamesOfEveryByte(t *testing.T) {
	for b := range 256 {
		want := api.ErrName
		if strings.IndexByte("ABCDEFGHIJKLMNOPQRSTUVWXYZabcdefghijklmnopqrstuvwxyz0123456789_", byte(b)) >= 0 {
			want = api.OK
		}
		name := string([]byte{byte(b)})
		if got := breakrule.Check(rules([]string{name})); got != want {
			t.Errorf("Check of the class %q = %d", name, got)
		}
		if _, fault := breakrule.Parse([]string{"xx" + name}, "keep xx"+name+" / xx"+name); fault != (api.Fault{Errno: want}) {
			t.Errorf("Parse with the class %q = %v", name, fault)
		}
	}
}

func TestCheckOfPatterns(t *testing.T) {
	for _, p := range []api.Pattern{class(0), class(2), class(0, 2), class(0, 1, 2), class(3), class(4), cat(), cat(class(0), class(4)), alt(cat(), cat()), star(star(class(3))), nested(16), cat(class(0), nested(15))} {
		for _, r := range []api.BreakRule{rule(api.Keep, p, cat()), rule(api.Break, cat(), p), rule(api.Must, p, p)} {
			if got := breakrule.Check(rules(abc, r)); got != api.OK {
				t.Errorf("Check(%v) = %d", r, got)
			}
		}
	}
	invalid := invalidPatterns()
	for i, p := range []api.Pattern{class(5), class(0, 3), class(3, 4), class(2, 4), class(0, 1, 2, 3), class(math.MaxInt), star(class(5)), cat(class(0), class(1, 4))} {
		invalid["class too great "+strconv.Itoa(i)] = p
	}
	for what, p := range invalid {
		for _, r := range []api.BreakRule{rule(api.Keep, p, cat()), rule(api.Break, cat(), p)} {
			if got := breakrule.Check(rules(abc, rule(api.Keep, class(0), class(0)), r)); got != api.ErrKind {
				t.Errorf("%s: Check = %d", what, got)
			}
			if got, errno := breakrule.Text(rules(abc, r)); got != "" || errno != api.ErrKind {
				t.Errorf("%s: Text = %q, %d", what, got, errno)
			}
			if action, i := breakrule.Decide(rules(abc, rule(api.Keep, cat(), cat()), r), []int{0}, 0); action != api.Break || i != -1 {
				t.Errorf("%s: Decide = %d, %d", what, action, i)
			}
		}
	}
	for _, action := range []int{0, 4, -1, math.MinInt, math.MaxInt} {
		if got := breakrule.Check(rules(abc, rule(action, cat(), cat()))); got != api.ErrKind {
			t.Errorf("Check of the action %d = %d", action, got)
		}
	}
}

func TestCheckOfSizes(t *testing.T) {
	empty := rule(api.Keep, cat(), cat())
	bad := rule(api.Keep, cat(class(0)), cat())
	for _, c := range []struct {
		r    api.BreakRules
		want api.Errno
	}{
		{rules(abc), api.OK},
		{rules(abc, slices.Repeat([]api.BreakRule{empty}, 100)...), api.OK},
		{rules(abc, slices.Repeat([]api.BreakRule{empty}, 101)...), api.ErrSize},
		{rules(abc, rule(api.Keep, wide(3999), cat())), api.OK},
		{rules(abc, rule(api.Keep, wide(3999), wide(3))), api.ErrSize},
		{rules(abc, rule(api.Keep, cat(), wide(4000))), api.ErrSize},
		{rules(abc, rule(api.Keep, wide(1000), wide(1000)), rule(api.Keep, wide(1000), wide(1000))), api.OK},
		{rules(abc, rule(api.Keep, wide(1000), wide(1000)), rule(api.Keep, wide(1000), wide(1001))), api.ErrSize},
		{rules(abc, rule(api.Keep, wide(100000), cat())), api.ErrSize},
		{rules(abc, append(slices.Repeat([]api.BreakRule{empty}, 101), bad)...), api.ErrKind},
		{rules(abc, rule(api.Keep, wide(5000), cat()), bad), api.ErrKind},
		{rules([]string{"A", "A"}, append(slices.Repeat([]api.BreakRule{empty}, 101), bad)...), api.ErrName},
		{rules([]string{"any"}, bad), api.ErrName},
	} {
		if got := breakrule.Check(c.r); got != c.want {
			t.Errorf("Check of %d rules = %d, not %d", len(c.r.Rules), got, c.want)
		}
		if got, errno := breakrule.Text(c.r); errno != c.want || errno != api.OK && got != "" {
			t.Errorf("Text of %d rules = %q, %d, not %d", len(c.r.Rules), got, errno, c.want)
		}
	}
}

// P28.3, the rules that are read

func TestParse(t *testing.T) {
	a, b, c := class(0), class(1), class(2)
	every := class(0, 1, 2)
	for _, x := range []struct {
		s    string
		want []api.BreakRule
	}{
		{"", nil},
		{" \t\r\n# keep\n  #\n\n", nil},
		{"keep A / B", []api.BreakRule{rule(api.Keep, a, b)}},
		{"break A / B\nmust B / A\n", []api.BreakRule{rule(api.Break, a, b), rule(api.Must, b, a)}},
		{"keep / ", []api.BreakRule{rule(api.Keep, cat(), cat())}},
		{"keep/", []api.BreakRule{rule(api.Keep, cat(), cat())}},
		{"break /", []api.BreakRule{rule(api.Break, cat(), cat())}},
		{"\t keep\rA\t/B \r", []api.BreakRule{rule(api.Keep, a, b)}},
		{"keep A / B # / C", []api.BreakRule{rule(api.Keep, a, b)}},
		{"keep A / B#", []api.BreakRule{rule(api.Keep, a, b)}},
		{"keep A B C /", []api.BreakRule{rule(api.Keep, cat(a, b, c), cat())}},
		{"keep / A|B", []api.BreakRule{rule(api.Keep, cat(), alt(a, b))}},
		{"keep / A B|C|", []api.BreakRule{rule(api.Keep, cat(), alt(cat(a, b), c, cat()))}},
		{"keep | / ||A", []api.BreakRule{rule(api.Keep, alt(cat(), cat()), alt(cat(), cat(), a))}},
		{"keep A* / A+", []api.BreakRule{rule(api.Keep, star(a), cat(a, star(a)))}},
		{"keep A? / A B?", []api.BreakRule{rule(api.Keep, alt(a, cat()), cat(a, alt(b, cat())))}},
		{"keep A * B + C ? /", []api.BreakRule{rule(api.Keep, cat(star(a), cat(b, star(b)), alt(c, cat())), cat())}},
		{"keep (A) / ((B))", []api.BreakRule{rule(api.Keep, a, b)}},
		{"keep (A B) C / A (B C)", []api.BreakRule{rule(api.Keep, cat(cat(a, b), c), cat(a, cat(b, c)))}},
		{"keep (A|B) | C / (A|B) C", []api.BreakRule{rule(api.Keep, alt(alt(a, b), c), cat(alt(a, b), c))}},
		{"keep () / ()()", []api.BreakRule{rule(api.Keep, cat(), cat(cat(), cat()))}},
		{"keep (A*)* / (A B)+", []api.BreakRule{rule(api.Keep, star(star(a)), cat(cat(a, b), star(cat(a, b))))}},
		{"keep (|)? / ()*", []api.BreakRule{rule(api.Keep, alt(alt(cat(), cat()), cat()), star(cat()))}},
		{"keep any / any*", []api.BreakRule{rule(api.Keep, every, star(every))}},
		{"keep start A / end", []api.BreakRule{rule(api.Keep, cat(class(3), a), class(4))}},
		{"keep [A] / [B A B]", []api.BreakRule{rule(api.Keep, a, class(0, 1))}},
		{"keep [C B A] / [ A ]", []api.BreakRule{rule(api.Keep, every, a)}},
		{"keep [^A] / [ ^ C C A ]", []api.BreakRule{rule(api.Keep, class(1, 2), b)}},
		{"keep [A C]+ / [^B]?", []api.BreakRule{rule(api.Keep, cat(class(0, 2), star(class(0, 2))), alt(class(0, 2), cat()))}},
		{"X = A B\nkeep X / X C", []api.BreakRule{rule(api.Keep, cat(a, b), cat(cat(a, b), c))}},
		{"X=A|B\nY=X*\nkeep Y/X X", []api.BreakRule{rule(api.Keep, star(alt(a, b)), cat(alt(a, b), alt(a, b)))}},
		{"X =\nkeep X / X | A", []api.BreakRule{rule(api.Keep, cat(), alt(cat(), a))}},
		{"a = A\n_ = B\n9 = C\nkeep a _ 9 /", []api.BreakRule{rule(api.Keep, cat(a, b, c), cat())}},
		{"keeps = A\nKeep = B\nkeep keeps / Keep", []api.BreakRule{rule(api.Keep, a, b)}},
		{"X = A # the first\n\n# nothing\nkeep X / B", []api.BreakRule{rule(api.Keep, a, b)}},
		{strings.Repeat("x", 32) + " = A\nkeep " + strings.Repeat("x", 32) + " / B", []api.BreakRule{rule(api.Keep, a, b)}},
		{"keep ((((((((((((((((((((A)))))))))))))))))))) / B", []api.BreakRule{rule(api.Keep, a, b)}},
	} {
		got, fault := breakrule.Parse(abc, x.s)
		if want := rules(abc, x.want...); !sameRules(got, want) || fault != (api.Fault{}) {
			t.Errorf("Parse(%q) = %v, %v, not %v", x.s, got, fault, want)
		}
		if breakrule.Check(got) != api.OK {
			t.Errorf("Parse(%q): the rules are not valid", x.s)
		}
	}
}

func TestParseOfAttachedClasses(t *testing.T) {
	a, b, every := class(0), class(1), class(0, 1, 2)
	withC := func(p api.Pattern) api.Pattern { return cat(p, star(class(2))) }
	withBC := func(p api.Pattern) api.Pattern { return cat(p, star(class(1, 2))) }
	attachC := rule(api.Keep, every, class(2))
	for _, x := range []struct {
		s    string
		want []api.BreakRule
	}{
		{"attach C", []api.BreakRule{attachC}},
		{"attach [C]", []api.BreakRule{attachC}},
		{"attach [^A B]", []api.BreakRule{attachC}},
		{"attach [B C]", []api.BreakRule{rule(api.Keep, every, class(1, 2))}},
		{"keep A / B\nattach C\nkeep A / B", []api.BreakRule{rule(api.Keep, a, b), attachC, rule(api.Keep, withC(a), withC(b))}},
		{"attach C\nkeep any / [A B]", []api.BreakRule{attachC, rule(api.Keep, withC(every), withC(class(0, 1)))}},
		{"attach C\nkeep start A / B end", []api.BreakRule{attachC, rule(api.Keep, cat(class(3), withC(a)), cat(withC(b), class(4)))}},
		{"attach C\nkeep A* / B+", []api.BreakRule{attachC, rule(api.Keep, star(withC(a)), cat(withC(b), star(withC(b))))}},
		{"attach C\nkeep C / ", []api.BreakRule{attachC, rule(api.Keep, withC(class(2)), cat())}},
		{"attach C\nattach B", []api.BreakRule{attachC, rule(api.Keep, withC(every), withC(b))}},
		{"attach C\nattach B\nkeep A / any", []api.BreakRule{attachC, rule(api.Keep, withC(every), withC(b)), rule(api.Keep, withBC(a), withBC(every))}},
		{"attach C\nattach C\nkeep A /", []api.BreakRule{attachC, rule(api.Keep, withC(every), withC(class(2))), rule(api.Keep, withC(a), cat())}},
		{"X = A\nattach C\nkeep X / B", []api.BreakRule{attachC, rule(api.Keep, withC(a), withC(b))}},
		{"attach C\nX = A\nkeep X / B", []api.BreakRule{attachC, rule(api.Keep, withC(a), withC(b))}},
		{"X = A B\nkeep X /\nattach C\nY = X | start\nkeep Y / X\nattach B\nkeep Y /", []api.BreakRule{
			rule(api.Keep, cat(a, b), cat()),
			attachC,
			rule(api.Keep, alt(cat(withC(a), withC(b)), class(3)), cat(withC(a), withC(b))),
			rule(api.Keep, withC(every), withC(b)),
			rule(api.Keep, alt(cat(withBC(a), withBC(b)), class(3)), cat()),
		}},
	} {
		if got, fault := breakrule.Parse(abc, x.s); !sameRules(got, rules(abc, x.want...)) || fault != (api.Fault{}) {
			t.Errorf("Parse(%q) = %v, %v, not %v", x.s, got, fault, x.want)
		}
	}
}

// P28.3, the errors

func TestParseRejectsOtherForms(t *testing.T) {
	long := strings.Repeat("x", 33)
	for errno, l := range map[api.Errno][]string{
		api.ErrSyntax: {
			"A", "keep", "keep A", "keep A B", "keep A / B / C", "A / B", "/", "= A", "A B = C", "X", "X Y", "X A", "X == A", "X = A = B", "X = A / B", "X = keep",
			"keep = A", "any = A", "start = A", "end = A", "attach = A", "must = A", "break = A", "A.B = A", "( = A", "* = A",
			"attach", "attach any", "attach start", "attach end", "attach (A)", "attach A B", "attach A*", "attach A / B", "attach [A", "attach []", "attach [^A B C]", "attach A|B", "attach keep",
			"keep * / B", "keep A** / B", "keep A*+ / B", "keep A?? / B", "keep |* / B", "keep (*) / B", "keep +A /", "keep / ?",
			"keep (A / B", "keep A) / B", "keep (A / B)", "keep A / (B", "keep A / B)", "keep ( / )", "keep )( /",
			"keep [] / B", "keep [^] / B", "keep [A / B", "keep A] / B", "keep [A B C / B", "keep [A|B] /", "keep [(A)] /", "keep [A*] /", "keep [A^B] /", "keep [^^A] /", "keep [[A]] /",
			"keep [any] / B", "keep [start] /", "keep [A end] /", "keep [keep] /", "keep [^A B C] / A", "keep [^C A B A] /",
			"keep keep / A", "keep attach A / B", "keep A / must", "keep A = B / C", "keep ^A /", "keep ^ /", "keep A / =", "keep A - B /", "keep A, B /", "keep A. / B", "keep \"A\" /", "keep A \\ /", "keep {A} /",
			"keep A / B;", "keep A\v/ B", "keep \u00e9 / B", "keep \xff / B", "keep A / B\x00", "X = (A", "X = A)", "X = A B C ]", "KEEP A / B", "keepA / B",
			"keep Unknown / )", "keep Unknown", "attach Unknown Unknown", "Unknown = Unknown )", "A = B )", long + " = ( A", "keep [^Unknown A B C] /", "attach [^ A B C Unknown]", "keep [Unknown any] /", "keep Unknown / Unknown / Unknown",
		},
		api.ErrName: {
			"keep Unknown / A", "keep A / Unknown", "keep (A | Unknown*) / B", "keep [Unknown] /", "keep [A Unknown] /", "keep [^Unknown] /", "keep [^A B Unknown] /", "keep a / B", "keep A_ /", "keep AB /", "keep A1 /",
			"attach Unknown", "attach [A Unknown]", "attach [^Unknown]", "X = Unknown", "X = X", "X = X A", "X = [Unknown]",
			"A = B", "C =", long + " = A", "keep " + long + " / A", "A = Unknown", "keep Keep /", "keep Start / A",
		},
	} {
		for _, s := range l {
			for _, x := range []struct {
				before, after string
				at            int
			}{{"", "", 1}, {"\n", "\nkeep A / B", 2}, {"keep A / B # x\n# y\n\n", " # z\nA", 4}, {"Y = A\nattach C\n", "\nkeep (\nA", 3}, {"", "\r\nA", 1}} {
				all := x.before + s + x.after
				if got, fault := breakrule.Parse(abc, all); fault != (api.Fault{Errno: errno, At: x.at}) || !sameRules(got, api.BreakRules{}) {
					t.Errorf("Parse(%q) = %v, %v, not %d", all, got, fault, errno)
				}
			}
		}
	}
}

func TestParseOfDefinedNames(t *testing.T) {
	for _, c := range []struct {
		s    string
		want api.Fault
	}{
		{"X = A\nX = B", api.Fault{Errno: api.ErrName, At: 2}},
		{"X = A\nX = X", api.Fault{Errno: api.ErrName, At: 2}},
		{"X = A\nX = (", api.Fault{Errno: api.ErrSyntax, At: 2}},
		{"X = A\nattach X", api.Fault{Errno: api.ErrSyntax, At: 2}},
		{"X = A\nattach [X]", api.Fault{Errno: api.ErrSyntax, At: 2}},
		{"X = A\nattach [A X]", api.Fault{Errno: api.ErrSyntax, At: 2}},
		{"X = A\nkeep [X] /", api.Fault{Errno: api.ErrSyntax, At: 2}},
		{"X = A\nkeep [^X] /", api.Fault{Errno: api.ErrSyntax, At: 2}},
		{"X = A\nkeep [A Unknown X] /", api.Fault{Errno: api.ErrSyntax, At: 2}},
		{"keep X /\nX = A", api.Fault{Errno: api.ErrName, At: 1}},
		{"keep [X] /\nX = A", api.Fault{Errno: api.ErrName, At: 1}},
		{"X = A\nkeep X / Y\nY = A", api.Fault{Errno: api.ErrName, At: 2}},
		{"X = Y\nY = X", api.Fault{Errno: api.ErrName, At: 1}},
		{"keep Unknown / B\nkeep (", api.Fault{Errno: api.ErrName, At: 1}},
		{"keep (\nkeep Unknown / B", api.Fault{Errno: api.ErrSyntax, At: 1}},
	} {
		if got, fault := breakrule.Parse(abc, c.s); fault != c.want || !sameRules(got, api.BreakRules{}) {
			t.Errorf("Parse(%q) = %v, %v", c.s, got, fault)
		}
	}
}

func TestParseOfManyRulesAndParts(t *testing.T) {
	atoms := func(n int) string { return strings.Repeat("A ", n) }
	size := func(at int) api.Fault { return api.Fault{Errno: api.ErrSize, At: at} }
	limit := func(at int) api.Fault { return api.Fault{Errno: api.ErrLimit, At: at} }
	doubled := "D0 = A A\n"
	for i := range 11 {
		doubled += "D" + strconv.Itoa(i+1) + " = D" + strconv.Itoa(i) + " D" + strconv.Itoa(i) + "\n"
	}
	for i, c := range []struct {
		s    string
		want api.Fault
	}{
		{strings.Repeat("keep /\n", 100), api.Fault{}},
		{strings.Repeat("keep /\n", 101), size(101)},
		{strings.Repeat("keep /\n", 100) + "\n# x\nX = A\nattach C", size(104)},
		{strings.Repeat("keep /\n", 100) + "keep Unknown /", api.Fault{Errno: api.ErrName, At: 101}},
		{strings.Repeat("keep /\n", 100) + "keep", api.Fault{Errno: api.ErrSyntax, At: 101}},
		{"keep " + atoms(3998) + "/", api.Fault{}},
		{"keep " + atoms(3999) + "/", size(1)},
		{"keep / " + atoms(3999), size(1)},
		{"keep " + atoms(1998) + "/" + atoms(1999), api.Fault{}},
		{"keep " + atoms(1999) + "/" + atoms(2000), size(1)},
		{"keep " + atoms(1998) + "/\nbreak " + atoms(1999) + "/ A", size(2)},
		{"keep " + atoms(1998) + "/\nbreak " + atoms(1998) + "/ A", api.Fault{}},
		{"keep " + atoms(3998) + "/\nX = A\nattach C", size(3)},
		{"X = " + atoms(3999), api.Fault{}},
		{"X = " + atoms(4000), size(1)},
		{"X = " + atoms(3999) + "\nY = " + atoms(3999) + "\nkeep A / B", api.Fault{}},
		{"X = " + atoms(3999) + "\nY = X X", size(2)},
		{"X = " + atoms(3999) + "\nkeep X /", size(2)},
		{"attach C\nX = " + atoms(999), api.Fault{}},
		{"attach C\nX = " + atoms(1000), size(2)},
		{"X = " + atoms(1000) + "\nattach C\nkeep X /", size(3)},
		{"attach C\nkeep " + atoms(1000) + "/", size(2)},
		{"attach C\nkeep " + atoms(999) + "/", api.Fault{}},
		{"attach C\nkeep " + atoms(999) + "/ A", size(2)},
		{doubled, size(11)},
		{"X = A" + strings.Repeat("|", 3998), api.Fault{}},
		{"X = A" + strings.Repeat("|", 3999), size(1)},
		{"X = " + nestedText(16), api.Fault{}},
		{"X = " + nestedText(17), limit(1)},
		{"keep " + nestedText(16) + "/" + nestedText(16), api.Fault{}},
		{"keep " + nestedText(17) + "/", limit(1)},
		{"keep /" + nestedText(17), limit(1)},
		{"keep A / B\nkeep A " + nestedText(16) + "/", limit(2)},
		{"X = " + nestedText(16) + "\nkeep X* /", limit(2)},
		{"X = " + nestedText(16) + "\nattach C\nkeep X /", limit(3)},
		{"attach C\nX = " + nestedText(14), api.Fault{}},
		{"attach C\nX = " + nestedText(15), limit(2)},
		{"X = A " + nestedText(17) + " " + atoms(4000), size(1)},
		{"keep " + nestedText(17) + "/ Unknown", api.Fault{Errno: api.ErrName, At: 1}},
		{"X = " + strings.Repeat("(", 20000) + "A" + strings.Repeat(")+", 20000), size(1)},
		{"X = " + strings.Repeat("(", 20000) + "A" + strings.Repeat(")", 20000), api.Fault{}},
		{"X = " + strings.Repeat("(", 60000), api.Fault{Errno: api.ErrSyntax, At: 1}},
		{"X = " + strings.Repeat("end ", 3999), api.Fault{}},
		{"attach C\nX = " + strings.Repeat("start ", 3999), api.Fault{}},
		{"attach C\nX = " + strings.Repeat("start ", 4000), size(2)},
		{"X = " + strings.Replace(nestedText(16), "A", "end", 1), api.Fault{}},
		{"attach C\nX = " + strings.Replace(nestedText(16), "A", "start", 1), api.Fault{}},
		{"attach C\nX = " + strings.Replace(nestedText(17), "A", "start", 1), limit(2)},
		{"X = " + strings.Replace(nestedText(16), "A", "", 1), api.Fault{}},
		{"X = " + strings.Replace(nestedText(17), "A", "", 1), limit(1)},
		{"attach C\nX = " + strings.Replace(nestedText(16), "A", "", 1), api.Fault{}},
		{"attach C\nX = " + strings.Replace(nestedText(17), "A", "", 1), limit(2)},
		{"X = " + strings.Repeat("() ", 3999), api.Fault{}},
		{"X = " + strings.Repeat("() ", 4000), size(1)},
	} {
		got, fault := breakrule.Parse(abc, c.s)
		if fault != c.want || fault != (api.Fault{}) && !sameRules(got, api.BreakRules{}) {
			t.Errorf("%d: Parse(%.60q) = %v, not %v", i, c.s, fault, c.want)
		}
		if fault == (api.Fault{}) && breakrule.Check(got) != api.OK {
			t.Errorf("%d: the rules of %.60q are not valid", i, c.s)
		}
	}
}

// nestedText returns a pattern with this number of levels, as it is written.
func nestedText(levels int) string {
	return strings.Repeat("(", levels-1) + "A" + strings.Repeat(")*", levels-1)
}

func TestParseOfLongStrings(t *testing.T) {
	longest := "keep A / B # " + strings.Repeat("x", api.MaxText-13)
	if got, fault := breakrule.Parse(abc, longest); len(got.Rules) != 1 || fault != (api.Fault{}) {
		t.Error(got, fault)
	}
	for _, s := range []string{longest + "x", "(" + longest, strings.Repeat("\n", api.MaxText+1)} {
		if got, fault := breakrule.Parse(abc, s); fault != (api.Fault{Errno: api.ErrSize}) || !sameRules(got, api.BreakRules{}) {
			t.Error(got, fault)
		}
	}
	if _, fault := breakrule.Parse(nil, longest+"x"); fault != (api.Fault{Errno: api.ErrName}) {
		t.Error(fault)
	}
}

func TestArgumentsAndResultsShareNothing(t *testing.T) {
	classes := slices.Clone(abc)
	got, _ := breakrule.Parse(classes, "X = A B\nattach C\nkeep X X+ / [A B] X\nbreak any any / A+")
	before := rules(slices.Clone(got.Classes))
	for _, r := range got.Rules {
		before.Rules = append(before.Rules, rule(r.Action, clonePattern(r.Left), clonePattern(r.Right)))
	}
	for i := range got.Rules {
		for _, p := range []*api.Pattern{&got.Rules[i].Left, &got.Rules[i].Right} {
			checkAlone(t, got, before, p)
		}
	}
	got.Classes[0] = "Z"
	if !slices.Equal(classes, abc) {
		t.Error("the classes are shared")
	}
	breakrule.Decide(before, []int{0, 1, 2}, 1)
	breakrule.Text(before)
	if again, _ := breakrule.Parse(classes, "X = A B\nattach C\nkeep X X+ / [A B] X\nbreak any any / A+"); !sameRules(again, before) {
		t.Error("a second result differs")
	}
}

func clonePattern(p api.Pattern) api.Pattern {
	c := api.Pattern{Kind: p.Kind, Classes: slices.Clone(p.Classes)}
	for _, sub := range p.Subs {
		c.Subs = append(c.Subs, clonePattern(sub))
	}
	return c
}

// checkAlone checks that the classes of each part of p are no other part's.
func checkAlone(t *testing.T, all, before api.BreakRules, p *api.Pattern) {
	for i := range p.Classes {
		p.Classes[i] += 100
		changed := 0
		for j, r := range all.Rules {
			changed += differences(r.Left, before.Rules[j].Left) + differences(r.Right, before.Rules[j].Right)
		}
		p.Classes[i] -= 100
		if changed != 1 {
			t.Fatal("a change of one class changes", changed)
		}
	}
	for i := range p.Subs {
		checkAlone(t, all, before, &p.Subs[i])
	}
}

// differences returns the number of classes in which two patterns of the same form differ.
func differences(a, b api.Pattern) int {
	n := 0
	for i := range a.Classes {
		if a.Classes[i] != b.Classes[i] {
			n++
		}
	}
	for i := range a.Subs {
		n += differences(a.Subs[i], b.Subs[i])
	}
	return n
}
