package breakrule

import (
	"slices"
	"strings"

	"unicodetext/api"
)

// Parse returns the rules of the lines of s.
func Parse(classes []string, s string) (api.BreakRules, api.Fault) {
	if !validClasses(classes) {
		return api.BreakRules{}, api.Fault{Errno: api.ErrName}
	}
	if len(s) > api.MaxText {
		return api.BreakRules{}, api.Fault{Errno: api.ErrSize}
	}
	p := newParser(classes)
	if fault := p.readLines(s); fault.Errno != api.OK {
		return api.BreakRules{}, fault
	}
	return api.BreakRules{Classes: slices.Clone(classes), Rules: p.rules}, api.Fault{}
}

// A parser reads lines, one after the other.
type parser struct {
	classes     map[string]int
	definitions map[string]*expression
	attached    []int // the attached classes, ascending
	rules       []api.BreakRule
	parts       int // of all rules
	line        int
	tokens      []string // what is left of the line
	unknown     bool     // whether the line contains a name that is neither a class nor defined above
}

// newParser returns a parser that has read nothing.
func newParser(classes []string) *parser {
	p := &parser{classes: map[string]int{}, definitions: map[string]*expression{}}
	for i, class := range classes {
		p.classes[class] = i
	}
	return p
}

// readLines reads all lines, up to the first fault.
func (p *parser) readLines(s string) (fault api.Fault) {
	defer func() {
		if first, ok := recover().(api.Fault); ok {
			fault = first
		}
	}()
	for i, row := range strings.Split(s, "\n") {
		p.line = i + 1
		p.readLine(row)
	}
	return api.Fault{}
}

// fail ends readLines with a fault of the line: what reads the line is nested too deeply to hand it upwards.
func (p *parser) fail(errno api.Errno) {
	panic(api.Fault{Errno: errno, At: p.line})
}

// readLine reads a line.
func (p *parser) readLine(row string) {
	p.tokens, p.unknown = p.split(row), false
	if len(p.tokens) == 0 {
		return
	}
	switch first := p.take(); first {
	case wordKeep:
		p.readRule(api.Keep)
	case wordBreak:
		p.readRule(api.Break)
	case wordMust:
		p.readRule(api.Must)
	case wordAttach:
		p.readAttachment()
	default:
		p.readDefinition(first)
	}
}

// split returns the tokens of a line: names, words, and single characters of punctuation.
func (p *parser) split(row string) []string {
	row, _, _ = strings.Cut(row, "#")
	var tokens []string
	for at := 0; at < len(row); {
		end := at + 1
		switch {
		case nameByte(row[at]):
			for end < len(row) && nameByte(row[end]) {
				end++
			}
			tokens = append(tokens, row[at:end])
		case strings.IndexByte("=/|*+?[]^()", row[at]) >= 0:
			tokens = append(tokens, row[at:end])
		case strings.IndexByte(" \t\r", row[at]) < 0:
			p.fail(api.ErrSyntax)
		}
		at = end
	}
	return tokens
}

// peek returns the next token; the empty string at the end of the line.
func (p *parser) peek() string {
	if len(p.tokens) == 0 {
		return ""
	}
	return p.tokens[0]
}

// take returns the next token and goes on to the one after it.
func (p *parser) take() string {
	token := p.peek()
	if token != "" {
		p.tokens = p.tokens[1:]
	}
	return token
}

// expect takes a token; another one, or the end of the line for the empty string, is a fault.
func (p *parser) expect(token string) {
	if p.take() != token {
		p.fail(api.ErrSyntax)
	}
}

// readRule reads what follows the action of a rule.
func (p *parser) readRule(action int) {
	left := p.readPattern()
	p.expect("/")
	right := p.readPattern()
	p.expect("")
	p.addRule(action, left, right)
}

// readAttachment reads what follows the word attach.
func (p *parser) readAttachment() {
	classes := p.readClasses(p.take())
	p.expect("")
	p.addRule(api.Keep, ofClasses(p.allClasses()), ofClasses(classes))
	p.attached = union(p.attached, classes)
}

// addRule adds the rule of a line that has the right form.
func (p *parser) addRule(action int, left, right *expression) {
	if p.unknown {
		p.fail(api.ErrName)
	}
	l, r := left.measure(p.attaching()), right.measure(p.attaching())
	p.parts += l.parts + r.parts
	if len(p.rules) == mostRules || p.parts > mostParts {
		p.fail(api.ErrSize)
	}
	if max(l.levels, r.levels) > api.MaxDepth {
		p.fail(api.ErrLimit)
	}
	p.rules = append(p.rules, api.BreakRule{Action: action, Left: left.pattern(p.attached), Right: right.pattern(p.attached)})
}

// attaching reports whether classes are attached.
func (p *parser) attaching() bool {
	return len(p.attached) > 0
}

// readDefinition reads what follows the first token of a definition.
func (p *parser) readDefinition(name string) {
	if !nameByte(name[0]) || isWord(name) {
		p.fail(api.ErrSyntax)
	}
	p.expect("=")
	e := p.readPattern()
	p.expect("")
	_, isClass := p.classes[name]
	if p.unknown || isClass || p.definitions[name] != nil || len(name) > api.MaxName {
		p.fail(api.ErrName)
	}
	m := e.measure(p.attaching())
	if m.parts > mostParts {
		p.fail(api.ErrSize)
	}
	if m.levels > api.MaxDepth {
		p.fail(api.ErrLimit)
	}
	p.definitions[name] = e
}

// readPattern reads alternatives, up to something else.
func (p *parser) readPattern() *expression {
	alternatives := []*expression{p.readAlternative()}
	for p.peek() == "|" {
		p.take()
		alternatives = append(alternatives, p.readAlternative())
	}
	if len(alternatives) == 1 {
		return alternatives[0]
	}
	return composed(api.PatAlt, alternatives...)
}

// readAlternative reads atoms, up to something else.
func (p *parser) readAlternative() *expression {
	var atoms []*expression
	for p.atAtom() {
		atoms = append(atoms, p.readRepeated())
	}
	if len(atoms) == 1 {
		return atoms[0]
	}
	return composed(api.PatCat, atoms...)
}

// atAtom reports whether the next token begins an atom, or something that can only be meant as one.
func (p *parser) atAtom() bool {
	switch p.peek() {
	case "", "|", "/", ")":
		return false
	}
	return true
}

// readRepeated reads an atom, and what perhaps follows it.
func (p *parser) readRepeated() *expression {
	e := p.readAtom()
	switch p.peek() {
	case "*":
		e = composed(api.PatStar, e)
	case "+":
		e = composed(api.PatCat, e, composed(api.PatStar, e))
	case "?":
		e = composed(api.PatAlt, e, composed(api.PatCat))
	default:
		return e
	}
	p.take()
	return e
}

// readAtom reads an atom.
func (p *parser) readAtom() *expression {
	switch token := p.take(); token {
	case "(":
		e := p.readPattern()
		p.expect(")")
		return e
	case wordAny:
		return ofClasses(p.allClasses())
	case wordStart:
		return ofBorder(len(p.classes))
	case wordEnd:
		return ofBorder(len(p.classes) + 1)
	default:
		if e := p.definitions[token]; e != nil {
			return e
		}
		return ofClasses(p.readClasses(token))
	}
}

// allClasses returns all classes.
func (p *parser) allClasses() []int {
	return complement(nil, len(p.classes))
}

// complement returns the classes that are not in the list, if there are n of them.
func complement(l []int, n int) []int {
	var others []int
	for class := range n {
		if !slices.Contains(l, class) {
			others = append(others, class)
		}
	}
	return others
}

// readClasses reads a class or a set that begins with a token, and returns the classes, ascending.
func (p *parser) readClasses(token string) []int {
	if token != "[" {
		return p.named(token)
	}
	except := p.peek() == "^"
	if except {
		p.take()
	}
	classes := p.named(p.take())
	for p.peek() != "]" {
		classes = union(classes, p.named(p.take()))
	}
	p.take()
	if !except {
		return classes
	}
	others := complement(classes, len(p.classes))
	if len(others) == 0 {
		p.fail(api.ErrSyntax)
	}
	return others
}

// named returns the class with a name; none, if it is unknown, because a syntax error further on in the line precedes the error of the name.
func (p *parser) named(token string) []int {
	if token == "" || !nameByte(token[0]) || isWord(token) || p.definitions[token] != nil {
		p.fail(api.ErrSyntax)
	}
	class, ok := p.classes[token]
	if !ok {
		p.unknown = true
		return nil
	}
	return []int{class}
}

// union returns the classes of both lists, ascending.
func union(a, b []int) []int {
	l := slices.Concat(a, b)
	slices.Sort(l)
	return slices.Compact(l)
}
