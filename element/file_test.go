package element_test

import (
	"math"
	"math/rand"
	"slices"
	"strconv"
	"strings"
	"testing"

	"unicodetext/api"
	"unicodetext/element"
)

func same(a, b api.Collation) bool {
	sameEntry := func(x, y api.Entry) bool {
		return slices.Equal(x.Codes, y.Codes) && slices.Equal(x.Elements, y.Elements)
	}
	return a.Base == b.Base && a.Second == b.Second && a.Third == b.Third && slices.Equal(a.Groups, b.Groups) && slices.EqualFunc(a.Entries, b.Entries, sameEntry)
}

// entry returns an entry of some codes, with elements.
func entry(codes []int, l ...api.Element) api.Entry {
	return api.Entry{Codes: codes, Elements: l}
}

// P42.3

func TestFileTextAndParseFile(t *testing.T) {
	for _, c := range []struct {
		c    api.Collation
		text string
	}{
		{api.Collation{}, "@base 0 0 0\n"},
		{api.Collation{Base: 1, Second: 2, Third: 3, Groups: []api.Group{{Name: "latin", Lo: 16, Hi: 31}}}, "@base 1 2 3\n@group latin 16 31\n"},
		{
			api.Collation{Base: math.MaxInt, Second: 65536, Groups: []api.Group{{Name: "b", Lo: 9, Hi: 0}, {Name: "b"}, {Name: strings.Repeat("_", 32), Hi: math.MaxInt}}},
			"@base 9223372036854775807 65536 0\n@group b 9 0\n@group b 0 0\n@group " + strings.Repeat("_", 32) + " 0 9223372036854775807\n",
		},
		{
			// Entries are in any order, may be there twice, and may have no codes or elements.
			api.Collation{Base: 7, Entries: []api.Entry{entry([]int{0x62}, of(1, 1, 1)), entry([]int{0x61}), entry(nil), entry(nil, of(0, 0, 0)), entry([]int{0x61, 0x10FFFF, 0xD800}, variable(1, 2, 3), of(0, 0, 4)), entry([]int{0x61})}},
			"@base 7 0 0\n0062; [.0001.0001.0001]\n0061; \n; \n; [.0000.0000.0000]\n0061 10FFFF D800; [*0001.0002.0003][.0000.0000.0004]\n0061; \n",
		},
	} {
		if s, errno := element.FileText(c.c); s != c.text || errno != api.OK {
			t.Errorf("%q, not %q; %v", s, c.text, errno)
		}
		for _, s := range []string{c.text, c.text[:len(c.text)-1]} {
			if got, fault := element.ParseFile(s); !same(got, c.c) || fault != (api.Fault{}) {
				t.Errorf("%q: %v %v", s, got, fault)
			}
		}
	}
}

func TestFileTextErrors(t *testing.T) {
	base := func(base, second, third int) api.Collation {
		return api.Collation{Base: base, Second: second, Third: third}
	}
	with := func(groups []api.Group, entries ...api.Entry) api.Collation {
		return api.Collation{Base: 1, Groups: groups, Entries: entries}
	}
	bad := entry([]int{0x61, -1}, of(1, 0, 0))
	for _, c := range []struct {
		c    api.Collation
		want api.Errno
	}{
		{base(-1, 0, 0), api.ErrRange},
		{base(0, -1, 0), api.ErrRange},
		{base(0, 0, math.MinInt), api.ErrRange},
		{with([]api.Group{{Name: "a", Lo: -1}}), api.ErrRange},
		{with([]api.Group{{Name: "a"}, {Name: "b", Hi: -1}}), api.ErrRange},
		{with([]api.Group{{Name: "-"}, {Name: "b", Hi: -1}}, bad), api.ErrRange},
		{with([]api.Group{{Name: "a"}, {Name: ""}}), api.ErrName},
		{with([]api.Group{{Name: "a b"}}, bad), api.ErrName},
		{with([]api.Group{{Name: strings.Repeat("a", 33)}}, bad), api.ErrName},
		{with(nil, bad), api.ErrRange},
		{with(nil, entry([]int{0x61}, of(1, 0, 0)), entry([]int{0x110000})), api.ErrRange},
		{with(nil, entry([]int{0x61}, of(1, 0, 0)), entry([]int{0x110000}, of(-1, 0, 0))), api.ErrRange},
		{with(nil, entry([]int{0x61}), entry([]int{0x62}, of(1, 1, 1), of(1, 0, 0)), entry(nil, of(-1, 0, 0))), api.ErrData},
		{with(nil, entry(nil, of(0, 0, 65536)), entry(nil, of(1, 0, 0))), api.ErrRange},
	} {
		if s, errno := element.FileText(c.c); s != "" || errno != c.want {
			t.Error(c.c, s, errno)
		}
	}
}

func TestParseFileIgnoresComments(t *testing.T) {
	want := api.Collation{Base: 1, Second: 2, Third: 3, Groups: []api.Group{{Name: "g", Lo: 4, Hi: 5}}, Entries: []api.Entry{entry([]int{0x61}, of(1, 1, 1)), entry([]int{0x62})}}
	for _, s := range []string{
		"@base 1 2 3\n@group g 4 5\n0061; [.0001.0001.0001]\n0062; ",
		"# head\n\n   # @base\n@base 1 2 3 # base\n\n@group g 4 5#\n   #\n0061; [.0001.0001.0001]   # a # b; [.\n##\n0062; \n\n\n# end",
		"\n\n\n@base 1 2 3#@base\n@group g 4 5\n0061; [.0001.0001.0001]#[\n0062; \n",
	} {
		if got, fault := element.ParseFile(s); !same(got, want) || fault != (api.Fault{}) {
			t.Errorf("%q: %v %v", s, got, fault)
		}
	}
}

const head = "@base 1 2 3\n"

// fileFaults holds strings that are no files of a collation, with their faults.
var fileFaults = []struct {
	s     string
	errno api.Errno
	at    int
}{
	{strings.Repeat("\n", api.MaxText+1), api.ErrSize, 0},
	{head + "#" + strings.Repeat("x", api.MaxText), api.ErrSize, 0},
	// All lines are ignored.
	{"", api.ErrSyntax, 1},
	{"#", api.ErrSyntax, 2},
	{"\n", api.ErrSyntax, 2},
	{"\n\n", api.ErrSyntax, 3},
	{"\n\n  # comment", api.ErrSyntax, 4},
	{strings.Repeat("\n", api.MaxText), api.ErrSyntax, api.MaxText + 1},
	// Lines that look empty.
	{" ", api.ErrSyntax, 1},
	{"\t# comment\n" + head, api.ErrSyntax, 1},
	{head + "\n \n", api.ErrSyntax, 3},
	{"\r\n" + head, api.ErrSyntax, 1},
	// The order of the lines.
	{"@group g 1 2\n" + head, api.ErrSyntax, 1},
	{"0061; \n" + head, api.ErrSyntax, 1},
	{head + head, api.ErrSyntax, 2},
	{head + "@group g 1 2\n" + head, api.ErrSyntax, 3},
	{head + "0061; \n@group g 1 2", api.ErrSyntax, 3},
	{head + "0061; \n" + head, api.ErrSyntax, 3},
	{head + "# comment\n; \n\n@group g 1 2", api.ErrSyntax, 5},
	// The base.
	{"@base", api.ErrSyntax, 1},
	{"@base ", api.ErrSyntax, 1},
	{"@base 1 2", api.ErrSyntax, 1},
	{"@base 1 2 3 4", api.ErrSyntax, 1},
	{"@base 1 2 3 ", api.ErrSyntax, 1},
	{"@base  1 2 3", api.ErrSyntax, 1},
	{" @base 1 2 3", api.ErrSyntax, 1},
	{"@base\t1 2 3", api.ErrSyntax, 1},
	{"@base1 2 3", api.ErrSyntax, 1},
	{"@Base 1 2 3", api.ErrSyntax, 1},
	{"@base 1 2 3\r\n", api.ErrSyntax, 1},
	{"@base 01 2 3", api.ErrSyntax, 1},
	{"@base 1 +2 3", api.ErrSyntax, 1},
	{"@base 1 2 -3", api.ErrSyntax, 1},
	{"@base 1 2 -0", api.ErrSyntax, 1},
	{"@base 1 2 0x3", api.ErrSyntax, 1},
	{"@base 1 2_0 3", api.ErrSyntax, 1},
	{"@base 1 2 9223372036854775808", api.ErrSyntax, 1},
	{"@base 1 2 F", api.ErrSyntax, 1},
	// Groups.
	{head + "@group", api.ErrSyntax, 2},
	{head + "@group g", api.ErrSyntax, 2},
	{head + "@group g 1", api.ErrSyntax, 2},
	{head + "@group g 1 2 3", api.ErrSyntax, 2},
	{head + "@group g  1 2", api.ErrSyntax, 2},
	{head + "@group  1 2", api.ErrSyntax, 2},
	{head + "@group g-h 1 2", api.ErrSyntax, 2},
	{head + "@group " + strings.Repeat("g", 33) + " 1 2", api.ErrSyntax, 2},
	{head + "@group g 1 -2", api.ErrSyntax, 2},
	{head + "@group g 1 002", api.ErrSyntax, 2},
	{head + "@groups g 1 2", api.ErrSyntax, 2},
	// Entries.
	{head + "0061;", api.ErrSyntax, 2},
	{head + "0061; # comment", api.ErrSyntax, 2},
	{head + "0061", api.ErrSyntax, 2},
	{head + "0061 ; ", api.ErrSyntax, 2},
	{head + " 0061; ", api.ErrSyntax, 2},
	{head + "0061;[.0001.0001.0001]", api.ErrSyntax, 2},
	{head + "0061;  [.0001.0001.0001]", api.ErrSyntax, 2},
	{head + "0061; [.0001.0001.0001] ", api.ErrSyntax, 2},
	{head + "0061; [.0001.0001.0001]; ", api.ErrSyntax, 2},
	{head + "61; ", api.ErrSyntax, 2},
	{head + "0061  0062; ", api.ErrSyntax, 2},
	{head + "110000; ", api.ErrSyntax, 2},
	{head + "0061..0062; ", api.ErrSyntax, 2},
	{head + "0061; [.0001.0001]", api.ErrSyntax, 2},
	// The errors of elements come after those of forms.
	{head + "0061; [.0001.0000.0000]", api.ErrData, 2},
	{head + "# comment\n\n0061; \n0062; [.0000.0001.0000][.0001.0001.0001]\n0063; [*0000.0000.0000]", api.ErrData, 5},
	{head + "0061; [.0001.0000.0000]\n0061; [.0001.0001.0001]\n0062", api.ErrSyntax, 4},
	{head + "0061; [.0001.0000.0000]\n@group g 1 2", api.ErrSyntax, 3},
	{head + "0061; [.0001.0000.0000][", api.ErrSyntax, 2},
}

func TestParseFileFaults(t *testing.T) {
	for _, c := range fileFaults {
		if got, fault := element.ParseFile(c.s); fault != (api.Fault{Errno: c.errno, At: c.at}) || !same(got, api.Collation{}) {
			t.Errorf("%.60q: %v", c.s, fault)
		}
	}
	for _, s := range otherForms {
		if strings.HasSuffix(s, "\n") {
			continue // It ends the line here.
		}
		if _, fault := element.ParseFile(head + "0061; " + s); fault != (api.Fault{Errno: api.ErrSyntax, At: 2}) {
			t.Errorf("%q: %v", s, fault)
		}
	}
}

// P42.4

// randomCollation returns a collation that can be written.
func randomCollation(r *rand.Rand) api.Collation {
	c := api.Collation{Base: r.Intn(100), Second: r.Int(), Third: r.Intn(10)}
	for i := range r.Intn(4) {
		c.Groups = append(c.Groups, api.Group{Name: "g" + strconv.Itoa(i), Lo: r.Intn(1000), Hi: r.Int() >> r.Intn(60)})
	}
	for range r.Intn(10) {
		codes := make([]int, r.Intn(4))
		for i := range codes {
			codes[i] = r.Intn(api.MaxCode + 1)
		}
		c.Entries = append(c.Entries, entry(codes, random(r)...))
	}
	return c
}

func TestRandomCollations(t *testing.T) {
	r := rand.New(rand.NewSource(2))
	for range 1000 {
		c := randomCollation(r)
		s, errno := element.FileText(c)
		if got, fault := element.ParseFile(s); errno != api.OK || fault != (api.Fault{}) || !same(got, c) {
			t.Fatal(s, errno, fault)
		}
		var rows []string
		for _, row := range strings.Split(s, "\n") {
			if r.Intn(3) == 0 {
				rows = append(rows, strings.Repeat(" ", r.Intn(3))+"# comment; [.0001")
			}
			if strings.HasSuffix(row, "]") && r.Intn(2) == 0 {
				row += strings.Repeat(" ", r.Intn(3)) + "#" + strings.Repeat("]", r.Intn(3))
			}
			rows = append(rows, row)
		}
		if got, fault := element.ParseFile(strings.Join(rows, "\n")); fault != (api.Fault{}) || !same(got, c) {
			t.Fatal(rows, fault)
		}
	}
}
