package element

import (
	"slices"
	"strconv"
	"strings"

	"unicodetext/api"
	"unicodetext/escape"
	"unicodetext/names"
)

const (
	baseWord    = "@base"
	groupWord   = "@group"
	blank       = " "
	codesEnd    = "; "
	commentMark = "#"
	lineEnd     = "\n"
)

// FileText returns the lines of a collation.
func FileText(c api.Collation) (string, api.Errno) {
	if errno := checkCollation(c); errno != api.OK {
		return "", errno
	}
	var out strings.Builder
	out.WriteString(baseWord + blank + joined(blank, strconv.Itoa, c.Base, c.Second, c.Third) + lineEnd)
	for _, g := range c.Groups {
		out.WriteString(groupWord + blank + g.Name + blank + joined(blank, strconv.Itoa, g.Lo, g.Hi) + lineEnd)
	}
	for _, e := range c.Entries {
		codes, _ := escape.Codes(e.Codes)
		elements, _ := Text(e.Elements)
		out.WriteString(codes + codesEnd + elements + lineEnd)
	}
	return out.String(), api.OK
}

// checkCollation returns ErrRange if a number is negative, ErrName if the name of a group is none, ErrRange if a code is no code point, otherwise the first error of an element.
func checkCollation(c api.Collation) api.Errno {
	if slices.Min(numbers(c)) < 0 {
		return api.ErrRange
	}
	for _, g := range c.Groups {
		if !names.Valid(g.Name) {
			return api.ErrName
		}
	}
	for _, e := range c.Entries {
		if _, errno := escape.Codes(e.Codes); errno != api.OK {
			return errno
		}
	}
	for _, e := range c.Entries {
		if errno := checkAll(e.Elements); errno != api.OK {
			return errno
		}
	}
	return api.OK
}

// numbers returns all numbers of a collation that are written as numerals.
func numbers(c api.Collation) []int {
	l := []int{c.Base, c.Second, c.Third}
	for _, g := range c.Groups {
		l = append(l, g.Lo, g.Hi)
	}
	return l
}

// ParseFile returns the collation of the lines of s.
func ParseFile(s string) (api.Collation, api.Fault) {
	if len(s) > api.MaxText {
		return api.Collation{}, api.Fault{Errno: api.ErrSize}
	}
	rows := divide(s)
	var r reader
	var wrong api.Fault // the first error of an element; errors of the form precede it
reading:
	for i, row := range rows {
		row = withoutComment(row)
		if row == "" {
			continue reading
		}
		switch errno := r.read(row); errno {
		case api.OK:
			continue reading
		case api.ErrSyntax:
			return api.Collation{}, api.Fault{Errno: errno, At: i + 1}
		default:
			if wrong.Errno == api.OK {
				wrong = api.Fault{Errno: errno, At: i + 1}
			}
		}
	}
	if r.part == nothing {
		return api.Collation{}, api.Fault{Errno: api.ErrSyntax, At: len(rows) + 1}
	}
	if wrong.Errno != api.OK {
		return api.Collation{}, wrong
	}
	return r.collation, api.Fault{}
}

// divide returns the lines of s without their ends.
func divide(s string) []string {
	rows := strings.Split(s, lineEnd)
	if last := len(rows) - 1; rows[last] == "" {
		return rows[:last]
	}
	return rows
}

// withoutComment returns a line without its comment, and without the blanks in front of that.
func withoutComment(row string) string {
	before, _, commented := strings.Cut(row, commentMark)
	if !commented {
		return row
	}
	return strings.TrimRight(before, blank)
}

// The parts of a file that a reader may have begun.
const (
	nothing = iota
	groups  // after the line of the base
	entries
)

// A reader reads lines, one after the other.
type reader struct {
	collation api.Collation
	part      int
}

// read reads a line that is not ignored. It returns ErrSyntax if that has another form or is out of order, otherwise the error of an element.
func (r *reader) read(row string) api.Errno {
	words := strings.Split(row, blank)
	switch {
	case words[0] == baseWord:
		return syntaxUnless(r.readBase(words[1:]))
	case words[0] == groupWord:
		return syntaxUnless(r.readGroup(words[1:]))
	}
	return r.readEntry(row)
}

// syntaxUnless returns ErrSyntax if something has not the required form.
func syntaxUnless(ok bool) api.Errno {
	if ok {
		return api.OK
	}
	return api.ErrSyntax
}

// readBase reads the words of the base, and reports whether they are permitted.
func (r *reader) readBase(words []string) bool {
	if r.part != nothing {
		return false
	}
	r.part = groups
	c := &r.collation
	return readNumbers(words, &c.Base, &c.Second, &c.Third)
}

// readGroup reads the words of a group, and reports whether they are permitted.
func (r *reader) readGroup(words []string) bool {
	if r.part != groups || len(words) == 0 || !names.Valid(words[0]) {
		return false
	}
	g := api.Group{Name: words[0]}
	ok := readNumbers(words[1:], &g.Lo, &g.Hi)
	r.collation.Groups = append(r.collation.Groups, g)
	return ok
}

// readNumbers reads words that are the numerals of as many numbers, and reports whether they are.
func readNumbers(words []string, numbers ...*int) bool {
	if len(words) != len(numbers) {
		return false
	}
	for i, word := range words {
		n, err := strconv.Atoi(word)
		if err != nil || n < 0 || strconv.Itoa(n) != word {
			return false
		}
		*numbers[i] = n
	}
	return true
}

// readEntry reads the line of an entry.
func (r *reader) readEntry(row string) api.Errno {
	if r.part == nothing {
		return api.ErrSyntax
	}
	r.part = entries
	notation, rest, separated := strings.Cut(row, codesEnd)
	codes, errno := escape.ParseCodes(notation)
	if !separated || errno != api.OK {
		return api.ErrSyntax
	}
	elements, errno := Parse(rest)
	r.collation.Entries = append(r.collation.Entries, api.Entry{Codes: codes, Elements: elements})
	return errno
}
