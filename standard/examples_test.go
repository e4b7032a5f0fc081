package standard_test

import (
	"slices"
	"strings"
	"testing"

	"unicodetext/api"
	"unicodetext/breakauto"
	"unicodetext/breakrule"
	"unicodetext/standard"
)

// marks are the marks of actions in the examples.
var marks = map[string]int{"-": api.Keep, "|": api.Break, "!": api.Must}

// The examples have at least one for each rule: names of classes, and between them, in front of them and after them the marks of what is decided.

var graphemeExamples = []string{
	"|", "| Other |", "| Other | Other |",
	"| CR - LF |", "| LF | CR |", "| CR | CR |", "| CR | Extend |", "| Control | Extend |", "| LF | Spacing |", "| Control | Joiner |",
	"| Other | Control |", "| Prepend | CR |", "| Prepend | LF |", "| Prepend | Control |",
	"| L - L - V - V - T - T |", "| L - LV - T |", "| L - LVT - T |", "| LV - V |", "| LV - T |", "| LVT | V |", "| LVT | LV |", "| T | L |", "| T | V |", "| V | L |", "| L | T |", "| L | Other |", "| Other | L |",
	"| Other - Extend |", "| Other - Joiner |", "| Other - Spacing - Extend |", "| Extend - Joiner - Extend |", "| Extend | Other |", "| Spacing | Other |",
	"| Prepend - Other |", "| Prepend - Prepend - L |", "| Prepend - Region |", "| Prepend |",
	"| Picture - Joiner - Picture |", "| Picture - Extend - Extend - Joiner - Picture |", "| Picture - Extend | Picture |", "| Picture | Picture |",
	"| Other - Joiner | Picture |", "| Picture - Joiner | Other |", "| Picture - Joiner - Extend | Picture |", "| Picture - Spacing - Joiner | Picture |",
	"| Region - Region |", "| Region - Region | Region |", "| Region - Region | Region - Region | Region |",
	"| Other | Region - Region | Region - Region |", "| Joiner | Region - Region | Region |", "| Region - Extend | Region - Region |", "| Control | Region - Region | Region |",
}

var wordExamples = []string{
	"|", "| Other |", "| Other | Other |",
	"| CR - LF |", "| Newline | LF |", "| Other | CR |", "| LF | Extend |", "| Newline | Format |", "| CR | Joiner |", "| Letter | Newline |", "| Letter | LF |",
	"| Space - Space |", "| Space - Extend | Space |", "| Space | Letter |",
	"| Letter - Extend |", "| Other - Joiner - Format - Extend |", "| Extend - Extend |",
	"| Letter - Letter - Hebrew - Letter |", "| Letter - Extend - Letter |", "| Letter - Format - Joiner - Hebrew |",
	"| Letter - MidLetter - Letter |", "| Letter - MidBoth - Extend - Hebrew |", "| Letter - Extend - Single - Letter |", "| Letter | MidLetter |",
	"| Letter | MidLetter | MidLetter | Letter |", "| Letter | MidNumber | Letter |", "| Letter | Single |", "| MidLetter | Letter |", "| Letter | Double | Letter |",
	"| Hebrew - Single |", "| Hebrew - Single | Other |", "| Hebrew - Extend - Single |", "| Hebrew - MidLetter - Letter |",
	"| Hebrew - Double - Hebrew |", "| Hebrew - Joiner - Double - Format - Hebrew |", "| Hebrew | Double | Letter |", "| Letter | Double | Hebrew |", "| Hebrew | Double |",
	"| Numeric - Numeric |", "| Numeric - Letter - Numeric |", "| Hebrew - Numeric - Hebrew |", "| Numeric - Extend - Numeric |",
	"| Numeric - MidNumber - Numeric |", "| Numeric - MidBoth - Numeric |", "| Numeric - Single - Extend - Numeric |", "| Numeric | MidLetter | Numeric |", "| Numeric | MidNumber |", "| Numeric | MidNumber | Letter |", "| Letter | MidNumber | Numeric |",
	"| Katakana - Katakana - Extend - Katakana |", "| Katakana | Letter |", "| Numeric | Katakana |",
	"| Letter - Connector - Connector - Katakana - Connector - Numeric - Connector - Hebrew |", "| Hebrew - Connector |", "| Connector | Other |", "| Other | Connector |",
	"| Region - Region | Region - Region |", "| Region - Extend - Region | Region |", "| Extend | Region - Region | Region |", "| Joiner - Format | Region - Region | Region |",
	"| Other - Extend | Region - Joiner - Region | Region - Region |", "| Other | Region - Region | Region |", "| Letter | Region - Region - Extend | Region |",
}

var sentenceExamples = []string{
	"|", "| Other |", "| Other - Other - Upper |", "| CR - LF !", "| CR ! CR !", "| LF ! Other |", "| Separator ! Extend - Other |", "| Other - Separator !", "| Other - CR - LF ! Letter |",
	"| Other - Extend - Format |", "| Extend - Extend |",
	"| Point - Numeric |", "| Point - Format - Numeric |", "| Stop | Numeric |", "| Point - Space | Numeric |",
	"| Upper - Point - Upper |", "| Lower - Point - Extend - Upper |", "| Lower - Extend - Point - Upper |", "| Letter - Point | Upper |", "| Numeric - Point | Upper |", "| Upper - Stop | Upper |",
	"| Point - Lower |", "| Point - Close - Space - Lower |", "| Point - Space - Other - Numeric - Lower |", "| Point - Space - Close - Format - Lower |", "| Point - Space | Letter - Lower |", "| Stop - Space | Lower |",
	"| Point - Space | Other - Upper - Lower |", "| Point - Space | Other |", "| Point - Space - Continue - Lower |",
	"| Stop - Continue |", "| Stop - Close - Space - Continue |", "| Point - Stop - Stop |", "| Stop - Space - Stop |", "| Point - Space - Point |",
	"| Stop - Close - Close |", "| Stop - Space - Space | Letter |", "| Stop - Close - Extend - Space | Letter |", "| Stop - Space | Close - Other |",
	"| Stop - Space - Separator ! Other |", "| Stop - Separator !", "| Stop - CR - LF ! Upper |", "| Stop - Space - LF ! Upper |",
	"| Stop | Upper |", "| Stop - Close | Other |", "| Point | Other |", "| Stop |", "| Stop - Extend | Letter |", "| Close - Space - Letter |",
}

var lineExamples = []string{
	"|", "| Other |", "| Ideograph | Ideograph |",
	"- Mandatory ! Other |", "| Other - Mandatory !", "- Mandatory ! Mandatory !", "| Other - CR - LF ! Other |", "| Other - CR ! CR !", "| Other - LF ! Space |", "| Other - Newline ! Combining |", "- LF ! LF !",
	"| Other - Space - Space | Other |", "| Other - Space - CR !", "| Other - ZeroSpace | Other |", "| Other - ZeroSpace - Space - Space | CloseP |", "- ZeroSpace - Space |", "| Ideograph - Space - Newline !", "- ZeroSpace | WordJoiner -",
	"| Joiner - Ideograph |", "| Ideograph - Joiner - Ideograph |", "| Joiner -", "| Other - Space | Combining |", "| Other - Space | Joiner -", "| Ideograph - Combining | Ideograph |", "| Combining - Combining | Ideograph |",
	"| Ideograph - WordJoiner - Ideograph |", "| Ideograph - Space - WordJoiner - Ideograph |", "- WordJoiner - Combining - Ideograph |", "| Ideograph - WordJoiner -",
	"| Glue - Ideograph |", "| Glue - Combining - Ideograph |", "| Ideograph - Glue -", "| Ideograph - Combining - Glue -", "- Space | Glue -", "- After | Glue -", "- Hyphen | Glue -", "- Hyphen - Combining | Glue -",
	"| Ideograph - CloseP | Ideograph |", "| Ideograph - Exclam | Ideograph |", "| Ideograph - Infix | Ideograph |", "| Ideograph - Symbol | Ideograph |", "| Ideograph - Space - CloseP | Ideograph |", "| Ideograph - Space - Infix | Ideograph |", "| Ideograph - Space - Exclam |", "| Ideograph - Space - Symbol |",
	"| Open - Space - Ideograph |", "| Open - Ideograph |", "| Open - Combining - Space - Space - Ideograph |", "| Open -",
	"- Quote - Space - Open - Ideograph |", "- Quote - Open -", "- Quote - Space | Ideograph |", "- CloseP - Space - NonStarter | Ideograph |", "- Exclam - Space | NonStarter |", "| Both - Space - Both |", "| Both - Both |", "| Both | Ideograph |", "| Ideograph | Both |",
	"| Ideograph - Space | Quote -", "| Ideograph - Quote - Ideograph |", "| Ideograph - Combining - Quote -",
	"| Ideograph - After | Ideograph |", "| Ideograph - Hyphen | Ideograph |", "| Ideograph - NonStarter | Ideograph |", "| Ideograph - Space | After |", "| Ideograph | Before - Ideograph |", "| Before -", "| Ideograph - Inseparable | Ideograph |", "- Inseparable - Inseparable |",
	"| Other - Numeric - Other |", "| Other - Combining - Numeric - Combining - Other |", "| Prefix - Ideograph |", "| Ideograph - Postfix |", "| Postfix | Ideograph |", "| Ideograph | Prefix |",
	"| Prefix - Other - Postfix - Other - Prefix |", "- CloseP - Postfix |", "- CloseP - Prefix |", "| Numeric - Prefix |", "| Numeric - Postfix |", "| Prefix | Prefix |",
	"| Prefix - Open -", "| Postfix - Open -", "| Prefix - Numeric |", "| Postfix - Numeric |",
	"- Hyphen - Numeric - Numeric |", "- Infix - Numeric |", "- Symbol - Numeric |", "- After | Numeric |", "- Hyphen - Combining - Numeric |",
	"| Other - Other |", "- Infix - Other |", "- Symbol | Other |", "- Hyphen | Other |", "| Other | Ideograph | Other |",
	"| Other - Open -", "| Numeric - Open -", "| Ideograph | Open -", "- CloseP - Other |", "- CloseP - Numeric |", "- CloseP | Open -",
	"| Region - Region | Region - Region |", "| Other | Region - Region | Region |", "| Region - Combining - Region | Region |", "| Combining | Region | Region |", "| Other - Joiner - Region - Region | Region |", "| Region - Region - Combining | Region - Region |", "| Region | Other |",
}

// An example is a list of classes with the actions at all positions.
type example struct{ classes, actions []int }

// read returns an example as it is written.
func read(t *testing.T, kind int, s string) example {
	t.Helper()
	var e example
	for i, word := range strings.Split(s, " ") {
		if i%2 == 1 {
			e.classes = append(e.classes, indices(t, kind, word)...)
			continue
		}
		action, ok := marks[word]
		if !ok {
			t.Fatal(s)
		}
		e.actions = append(e.actions, action)
	}
	return e
}

func TestExamples(t *testing.T) {
	for kind, examples := range map[int][]string{api.Graphemes: graphemeExamples, api.Words: wordExamples, api.Sentences: sentenceExamples, api.Lines: lineExamples} {
		table, rules := standard.Table(kind), standard.Parsed(kind)
		decided := map[int]bool{}
		for _, s := range examples {
			e := read(t, kind, s)
			if got := breakauto.Actions(table, e.classes); !slices.Equal(got, e.actions) {
				t.Errorf("%d: %s: %v", kind, s, got)
			}
			for at, want := range e.actions {
				action, rule := breakrule.Decide(rules, e.classes, at)
				if action != want {
					t.Errorf("%d: %s: %d by rule %d at %d", kind, s, action, rule, at)
				}
				decided[rule] = true
			}
		}
		for rule := range rules.Rules {
			if !decided[rule] {
				t.Errorf("%d: no example for rule %d", kind, rule)
			}
		}
	}
}

// Between two Regions there is a boundary exactly if an even number of them stands directly in front of it.
func TestRegionsArePaired(t *testing.T) {
	for kind, before := range map[int]string{api.Graphemes: "Other", api.Words: "Letter", api.Lines: "Ideograph"} {
		table := standard.Table(kind)
		region := indices(t, kind, "Region")[0]
		for _, first := range [][]int{nil, indices(t, kind, before)} {
			for n := 2; n < 40; n++ {
				l := slices.Concat(first, slices.Repeat([]int{region}, n))
				for regions := 1; regions < n; regions++ {
					action, _ := breakauto.Decide(table, l, len(first)+regions)
					if (action == api.Break) != (regions%2 == 0) {
						t.Error(kind, n, regions, action)
					}
				}
			}
		}
	}
}
