package database

import (
	"strconv"
	"strings"

	"unicodetext/api"
	"unicodetext/cpset"
	"unicodetext/lines"
	"unicodetext/mapping"
	"unicodetext/property"
	"unicodetext/spans"
)

const (
	versionPoint = "."
	lineEnd      = "\n"
)

// The kinds of files.
const (
	versionKind = iota
	propertyKind
	classesKind
	mappingsKind
	setKind
)

// A file is the name of a file, and which part of a database it contains.
type file struct {
	name        string
	kind, index int
}

var files = [21]file{
	{"version", versionKind, 0},
	{"category", propertyKind, api.PropCategory},
	{"width", propertyKind, api.PropWidth},
	{"script", propertyKind, api.PropScript},
	{"grapheme", propertyKind, api.PropGrapheme},
	{"word", propertyKind, api.PropWord},
	{"sentence", propertyKind, api.PropSentence},
	{"line", propertyKind, api.PropLine},
	{"classes", classesKind, 0},
	{"decomposition", mappingsKind, decompositions},
	{"exclusions", setKind, api.SetExcluded},
	{"lower", mappingsKind, lowers},
	{"upper", mappingsKind, uppers},
	{"title", mappingsKind, titles},
	{"fold", mappingsKind, folds},
	{"cased", setKind, api.SetCased},
	{"ignorable", setKind, api.SetIgnorable},
	{"start", setKind, api.SetStart},
	{"continue", setKind, api.SetContinue},
	{"medial", setKind, api.SetMedial},
	{"confusable", mappingsKind, confusables},
}

// Files returns the names of the files, in order.
func Files() []string {
	var l []string
	for _, f := range files {
		l = append(l, f.name)
	}
	return l
}

// Text returns all files of a database, in order; the error of Check.
func Text(d api.Database) ([]api.File, api.Errno) {
	if errno := Check(d); errno != api.OK {
		return nil, errno
	}
	var l []api.File
	for _, f := range files {
		s, errno := textOf(&d, f)
		if errno != api.OK {
			return nil, errno
		}
		l = append(l, api.File{Name: f.name, Text: s})
	}
	return l, api.OK
}

// textOf returns the contents of a file of a database without an error.
func textOf(d *api.Database, f file) (string, api.Errno) {
	var rows []api.Line
	switch f.kind {
	case versionKind:
		return strconv.Itoa(d.Version.Major) + versionPoint + strconv.Itoa(d.Version.Minor), api.OK
	case propertyKind:
		return property.Text(*properties(d)[f.index])
	case mappingsKind:
		return mapping.Text(*mappings(d)[f.index])
	case classesKind:
		for _, s := range d.Norm.Classes {
			rows = append(rows, api.Line{Lo: s.Lo, Hi: s.Hi, Fields: []string{strconv.Itoa(s.Value)}})
		}
	case setKind:
		for _, r := range sets(d)[f.index].Ranges {
			rows = append(rows, api.Line{Lo: r.Lo, Hi: r.Hi})
		}
	}
	return lines.Text(rows)
}

// Parse returns the database with the contents of files in any order; what has no file is as in Empty. With a fault it returns the name of the file that has it.
func Parse(l []api.File) (api.Database, string, api.Fault) {
	contents, name, errno := contentsOf(l)
	if errno != api.OK {
		return api.Database{}, name, api.Fault{Errno: errno}
	}
	r := reader{Empty()}
	for _, f := range files {
		s, given := contents[f.name]
		if !given {
			continue
		}
		if fault := r.parser(f.kind)(f.index, s); fault.Errno != api.OK {
			return api.Database{}, f.name, fault
		}
	}
	return r.database, "", api.Fault{}
}

// contentsOf returns the contents of the files by their names; otherwise the name of the first one whose name is not known, or occurred before.
func contentsOf(l []api.File) (map[string]string, string, api.Errno) {
	known := map[string]bool{}
	for _, f := range files {
		known[f.name] = true
	}
	for _, f := range l {
		if !known[f.Name] {
			return nil, f.Name, api.ErrName
		}
	}
	contents := map[string]string{}
	for _, f := range l {
		if _, twice := contents[f.Name]; twice {
			return nil, f.Name, api.ErrTwice
		}
		contents[f.Name] = f.Text
	}
	return contents, "", api.OK
}

// A reader reads files into a database.
type reader struct{ database api.Database }

// parser returns what reads files of a kind into the part with an index.
func (r *reader) parser(kind int) func(index int, s string) api.Fault {
	switch kind {
	case versionKind:
		return r.readVersion
	case propertyKind:
		return r.readProperty
	case classesKind:
		return r.readClasses
	case mappingsKind:
		return r.readMappings
	}
	return r.readSet
}

func (r *reader) readVersion(_ int, s string) api.Fault {
	major, minor, _ := strings.Cut(strings.TrimSuffix(s, lineEnd), versionPoint)
	v := &r.database.Version
	var okMajor, okMinor bool
	v.Major, okMajor = numeral(major, 0, greatestVersion)
	v.Minor, okMinor = numeral(minor, 0, greatestVersion)
	if !okMajor || !okMinor {
		return api.Fault{Errno: api.ErrSyntax, At: 1}
	}
	return api.Fault{}
}

// numeral returns the number that a decimal numeral without leading zeros denotes, and whether s is one of a number in the range.
func numeral(s string, lo, hi int) (int, bool) {
	n, err := strconv.Atoi(s)
	return n, err == nil && strconv.Itoa(n) == s && lo <= n && n <= hi
}

func (r *reader) readProperty(index int, s string) api.Fault {
	p, fault := property.Parse(s)
	*properties(&r.database)[index] = p
	return fault
}

func (r *reader) readMappings(index int, s string) api.Fault {
	l, fault := mapping.Parse(s)
	*mappings(&r.database)[index] = l
	return fault
}

func (r *reader) readSet(index int, s string) api.Fault {
	rows, fault := lines.Parse(s)
	if fault.Errno != api.OK {
		return fault
	}
	var l []api.Range
	for _, row := range rows {
		if len(row.Fields) != 0 {
			return api.Fault{Errno: api.ErrSyntax, At: row.Number}
		}
		l = append(l, api.Range{Lo: row.Lo, Hi: row.Hi})
	}
	*sets(&r.database)[index] = cpset.Make(l)
	return api.Fault{}
}

func (r *reader) readClasses(_ int, s string) api.Fault {
	rows, fault := lines.Parse(s)
	if fault.Errno != api.OK {
		return fault
	}
	var l []api.Span
	for _, row := range rows {
		class, ok := classOf(row.Fields)
		if !ok {
			return api.Fault{Errno: api.ErrSyntax, At: row.Number}
		}
		l = append(l, api.Span{Lo: row.Lo, Hi: row.Hi, Value: class})
	}
	if i, twice := spans.Overlap(l); twice {
		return api.Fault{Errno: api.ErrTwice, At: rows[i].Number}
	}
	r.database.Norm.Classes = spans.Joined(l)
	return api.Fault{}
}

// classOf returns the class that the fields of a line denote, and whether there is one field that is the numeral of a class.
func classOf(fields []string) (int, bool) {
	if len(fields) != 1 {
		return 0, false
	}
	return numeral(fields[0], leastClass, greatestClass)
}
