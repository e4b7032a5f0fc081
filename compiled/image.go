package compiled

import (
	"strings"

	"unicodetext/api"
	"unicodetext/image"
)

const (
	versionSize  = 2
	mostNames    = 250 // of a property in an image
	greatestByte = 255
	mostWidths   = 3
)

// Image returns the sealed bytes of a compiled database; ErrData if it is not valid.
func Image(c api.Compiled) (string, api.Errno) {
	if !Valid(c) {
		return "", api.ErrData
	}
	var out strings.Builder
	put := func(lists ...[]int) {
		for _, l := range lists {
			out.WriteString(image.Ints(l))
		}
	}
	put([]int{c.Version.Major, c.Version.Minor})
	for _, names := range c.Names {
		put([]int{len(names)})
		for _, name := range names {
			put(bytesOf(name))
		}
	}
	for _, l := range [4][]api.Table{c.Properties, {c.Classes}, c.Sets, c.Mappings} {
		for _, t := range l {
			put(t.Widths)
			put(t.Stages...)
		}
	}
	put(c.Pool.Codes, c.Pool.Starts, c.Pool.Lengths)
	return image.Seal(out.String()), api.OK
}

// bytesOf returns the bytes of a string.
func bytesOf(s string) []int {
	var l []int
	for i := range len(s) {
		l = append(l, int(s[i]))
	}
	return l
}

// A reader reads lists, one after the other, up to the first error.
type reader struct {
	rest  string
	errno api.Errno
}

// list reads a list; nothing after an error, which it is, too, if the list is not permitted.
func (r *reader) list(permitted func(l []int) bool) []int {
	if r.errno != api.OK {
		return nil
	}
	l, n, errno := image.ReadInts(r.rest)
	if errno == api.OK && !permitted(l) {
		errno = api.ErrRange
	}
	if errno != api.OK {
		r.errno = errno
		return nil
	}
	r.rest = r.rest[n:]
	return l
}

// anyList permits every list.
func anyList(_ []int) bool {
	return true
}

// A loader reads the parts of a compiled database.
type loader struct{ reader }

// Load returns the valid compiled database with these bytes.
func Load(s string) (api.Compiled, api.Errno) {
	body, errno := image.Open(s)
	if errno != api.OK {
		return api.Compiled{}, errno
	}
	l := &loader{reader{rest: body}}
	c := l.compiled()
	switch {
	case l.errno != api.OK:
		return api.Compiled{}, l.errno
	case l.rest != "":
		return api.Compiled{}, api.ErrSize
	case !Valid(c):
		return api.Compiled{}, api.ErrData
	}
	return c, api.OK
}

// compiled reads all parts.
func (l *loader) compiled() api.Compiled {
	c := api.Compiled{Version: l.version()}
	for range api.PropertyCount {
		c.Names = append(c.Names, l.names())
	}
	c.Properties = l.tables(api.PropertyCount)
	c.Classes = l.table()
	c.Sets = l.tables(api.SetCount)
	c.Mappings = l.tables(api.MapCount)
	c.Pool.Codes = l.list(anyList)
	c.Pool.Starts = l.list(anyList)
	c.Pool.Lengths = l.list(anyList)
	return c
}

// version reads the numbers of the version.
func (l *loader) version() api.Version {
	numbers := l.list(func(numbers []int) bool { return len(numbers) == versionSize })
	if l.errno != api.OK {
		return api.Version{}
	}
	return api.Version{Major: numbers[0], Minor: numbers[1]}
}

// names reads the names of a property.
func (l *loader) names() []string {
	count := l.list(func(numbers []int) bool {
		return len(numbers) == 1 && 1 <= numbers[0] && numbers[0] <= mostNames
	})
	if l.errno != api.OK {
		return nil
	}
	var names []string
	for range count[0] {
		names = append(names, l.name())
	}
	return names
}

// name reads a name.
func (l *loader) name() string {
	numbers := l.list(allBytes)
	name := make([]byte, len(numbers))
	for i, n := range numbers {
		name[i] = byte(n)
	}
	return string(name)
}

// allBytes permits lists of bytes.
func allBytes(l []int) bool {
	for _, n := range l {
		if n < 0 || n > greatestByte {
			return false
		}
	}
	return true
}

// tables reads tables, one after the other.
func (l *loader) tables(count int) []api.Table {
	var tables []api.Table
	for range count {
		tables = append(tables, l.table())
	}
	return tables
}

// table reads a table.
func (l *loader) table() api.Table {
	t := api.Table{Widths: l.list(func(widths []int) bool { return 1 <= len(widths) && len(widths) <= mostWidths })}
	for range len(t.Widths) + 1 {
		t.Stages = append(t.Stages, l.list(anyList))
	}
	return t
}
