package setexpr

import (
	"slices"
	"strings"

	"unicodetext/api"
	"unicodetext/codepoint"
	"unicodetext/cpset"
	"unicodetext/database"
	"unicodetext/names"
)

const (
	blank      = ' '
	groupStart = '['
	groupEnd   = ']'
	negation   = '^'
	minus      = '-' // between two characters, and twice an operator
	and        = '&'
	backslash  = '\\'
	braceStart = '{'
	braceEnd   = '}'
	classMark  = 'p' // what begins a class, behind a backslash
	digitsMark = 'u' // what begins a character in hexadecimal digits, behind a backslash
	equals     = '='

	special        = `[]^-&\{}` // what is no character by itself
	hexDigits      = "0123456789ABCDEF"
	mostDigits     = 6
	firstPrintable = 33
	lastPrintable  = 126
)

// Parse returns the valid set of an expression.
func Parse(d api.Database, s string) (set api.Set, fault api.Fault) {
	if len(s) > api.MaxText {
		return api.Set{}, api.Fault{Errno: api.ErrSize}
	}
	defer func() {
		if first, ok := recover().(api.Fault); ok {
			set, fault = api.Set{}, first
		}
	}()
	p := &parser{text: s, database: d, valid: database.Check(d) == api.OK}
	return p.expression(), api.Fault{}
}

// A parser reads an expression from left to right.
type parser struct {
	text     string
	at       int
	depth    int // groups that are open
	database api.Database
	valid    bool // whether the database is
}

// fail ends Parse with a fault: what reads the expression is nested too deeply to hand it upwards.
func (p *parser) fail(errno api.Errno, at int) {
	panic(api.Fault{Errno: errno, At: at})
}

// starts reports whether what follows begins with these bytes.
func (p *parser) starts(s string) bool {
	return strings.HasPrefix(p.text[p.at:], s)
}

// peek returns the next byte; without one the expression is not ended.
func (p *parser) peek() byte {
	if p.at == len(p.text) {
		p.fail(api.ErrSyntax, p.at)
	}
	return p.text[p.at]
}

// take returns the next byte, and goes on to the one after it.
func (p *parser) take() byte {
	b := p.peek()
	p.at++
	return b
}

// refuse fails at the byte that was taken last.
func (p *parser) refuse() {
	p.fail(api.ErrSyntax, p.at-1)
}

// need takes bytes that must follow.
func (p *parser) need(bytes ...byte) {
	for _, b := range bytes {
		if p.take() != b {
			p.refuse()
		}
	}
}

// blanks passes over blanks.
func (p *parser) blanks() {
	for p.at < len(p.text) && p.text[p.at] == blank {
		p.at++
	}
}

// expression reads all of the text.
func (p *parser) expression() api.Set {
	p.blanks()
	set := p.group()
	p.blanks()
	if p.at < len(p.text) {
		p.fail(api.ErrSyntax, p.at)
	}
	return set
}

// A union is a set to which items are added.
type union struct {
	set   api.Set
	items []api.Range // what was added since the set was made
}

// add adds a set.
func (u *union) add(s api.Set) {
	u.items = append(u.items, s.Ranges...)
}

// made returns the set of all that was added.
func (u *union) made() api.Set {
	if len(u.items) > 0 {
		u.set, u.items = cpset.Make(slices.Concat(u.set.Ranges, u.items)), nil
	}
	return u.set
}

// group reads a group.
func (p *parser) group() api.Set {
	if p.peek() == groupStart && p.depth > api.MaxDepth {
		p.fail(api.ErrLimit, p.at)
	}
	p.need(groupStart)
	p.depth++
	p.blanks()
	negated := p.peek() == negation
	if negated {
		p.at++
		p.blanks()
	}
	var u union
	for p.peek() != groupEnd {
		p.part(&u)
		p.blanks()
	}
	p.at++
	p.depth--
	if negated {
		return cpset.Not(u.made())
	}
	return u.made()
}

// part reads an item of a group, and adds it to what precedes it; or an operator with its operand, and changes what precedes it.
func (p *parser) part(u *union) {
	operate := cpset.And
	switch p.peek() {
	case minus:
		operate = cpset.Minus
		p.need(minus)
		if p.peek() != minus {
			p.fail(api.ErrSyntax, p.at)
		}
		fallthrough // to what both operators have in common from their last byte on
	case and:
		p.at++
		p.blanks()
		u.set = operate(u.made(), p.operand())
	default:
		if p.peek() == groupStart || p.starts(`\p`) {
			u.add(p.operand())
		} else {
			u.items = append(u.items, p.characters())
		}
	}
}

// operand reads a group or a class.
func (p *parser) operand() api.Set {
	if p.peek() == backslash {
		return p.class()
	}
	return p.group()
}

// class reads a class.
func (p *parser) class() api.Set {
	p.need(backslash, classMark, braceStart)
	at := p.at
	name := p.word()
	switch p.take() {
	case equals:
		property, ok := propertyOf(p.database, name)
		p.check(ok, at)
		at = p.at
		value := p.word()
		p.need(braceEnd)
		set, ok := valueSet(property, value)
		p.check(ok, at)
		return set
	case braceEnd:
		set, ok := setOf(p.database, name)
		p.check(ok, at)
		return set
	}
	p.refuse()
	return api.Set{}
}

// check fails if the word that begins at a position is not the name of what there is in the database.
func (p *parser) check(known bool, at int) {
	if !known || !p.valid {
		p.fail(api.ErrName, at)
	}
}

// word reads letters, digits and _.
func (p *parser) word() string {
	start := p.at
	for p.at < len(p.text) && names.Valid(p.text[p.at:p.at+1]) {
		p.at++
	}
	if p.at == start {
		p.fail(api.ErrSyntax, p.at)
	}
	return p.text[start:p.at]
}

// characters reads a character or a pair of characters.
func (p *parser) characters() api.Range {
	c := p.character()
	p.blanks()
	if !p.starts("-") || p.starts("--") {
		return api.Range{Lo: c, Hi: c}
	}
	p.need(minus)
	p.blanks()
	at := p.at
	last := p.character()
	if last < c {
		p.fail(api.ErrSyntax, at)
	}
	return api.Range{Lo: c, Hi: last}
}

// character reads a character.
func (p *parser) character() int {
	b := p.take()
	if b == backslash {
		return p.escaped()
	}
	if b < firstPrintable || b > lastPrintable || strings.IndexByte(special, b) >= 0 {
		p.refuse()
	}
	return int(b)
}

// escaped reads a character behind its backslash.
func (p *parser) escaped() int {
	b := p.take()
	if b == digitsMark {
		return p.digits()
	}
	if b != blank && strings.IndexByte(special, b) < 0 {
		p.refuse()
	}
	return int(b)
}

// digits reads hexadecimal digits in braces.
func (p *parser) digits() int {
	p.need(braceStart)
	c := 0
	for n := 0; ; n++ {
		b := p.take()
		if b == braceEnd && n > 0 {
			return c
		}
		digit := strings.IndexByte(hexDigits, b)
		c = c*len(hexDigits) + digit
		if digit < 0 || n == mostDigits || !codepoint.Valid(c) {
			p.refuse()
		}
	}
}
