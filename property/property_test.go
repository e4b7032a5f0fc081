package property_test

import (
	"math"
	"math/rand"
	"slices"
	"strconv"
	"strings"
	"testing"

	"unicodetext/api"
	"unicodetext/cpset"
	"unicodetext/property"
)

const last = api.MaxCode

// list returns spans given by their ends and values.
func list(numbers ...int) []api.Span {
	var l []api.Span
	for i := 0; i < len(numbers); i += 3 {
		l = append(l, api.Span{Lo: numbers[i], Hi: numbers[i+1], Value: numbers[i+2]})
	}
	return l
}

// of returns the property with the names Other, A, B and C, and spans given by their ends and values.
func of(numbers ...int) api.Property {
	return api.Property{Names: []string{"Other", "A", "B", "C"}, Spans: list(numbers...)}
}

func same(a, b api.Property) bool {
	return slices.Equal(a.Names, b.Names) && slices.Equal(a.Spans, b.Spans)
}

// count returns n different names.
func count(n int) []string {
	var names []string
	for i := range n {
		names = append(names, "n"+strconv.Itoa(i))
	}
	return names
}

var valid = []api.Property{
	of(),
	of(0, last, 3),
	of(0, 0, 1, last, last, 2),
	of(5, 9, 1, 10, 10, 2, 11, 12, 1, 14, 14, 1),
	{Names: []string{"_"}},
	{Names: []string{"Other"}, Spans: []api.Span{}},
	{Names: []string{strings.Repeat("x", 32), "0"}, Spans: list(0x41, 0x5A, 1)},
	{Names: count(250), Spans: list(1, 1, 249)},
	{Names: []string{"B", "A", "a", "b"}, Spans: list(0xD800, 0xDFFF, 2)},
}

// badNames are lists that are no names of a property.
var badNames = [][]string{
	nil, {}, {""}, {"A", ""}, {"A", "B", "A"}, {"A B"}, {"A", "é"}, {"A-"}, {"@names"}, {strings.Repeat("x", 33)}, count(251), {"A", "B\n"},
}

// invalid returns properties that are not valid.
func invalid() []api.Property {
	l := []api.Property{
		{},
		of(5, 9, 0),
		of(5, 9, 4),
		of(5, 9, -1),
		of(5, 9, math.MinInt),
		of(9, 5, 1),
		of(-1, 5, 1),
		of(5, last+1, 1),
		of(math.MinInt, math.MaxInt, 1),
		of(5, 9, 1, 9, 12, 2),
		of(5, 9, 1, 10, 12, 1),
		of(10, 12, 1, 5, 6, 2),
		of(5, 9, 1, 5, 9, 1),
		of(1, 2, 1, 5, 4, 1),
		{Spans: list(5, 9, 1)},
	}
	for _, names := range badNames {
		l = append(l, api.Property{Names: names}, api.Property{Names: names, Spans: list(0x41, 0x41, 1)})
	}
	return l
}

// P10.1

func TestValid(t *testing.T) {
	for _, p := range valid {
		if !property.Valid(p) {
			t.Error(p)
		}
	}
	for _, p := range invalid() {
		if property.Valid(p) {
			t.Error(p)
		}
	}
}

func TestMake(t *testing.T) {
	names := []string{"Other", "A", "B", "C"}
	for _, c := range []struct{ l, want []api.Span }{
		{nil, nil},
		{list(5, 9, 0), nil},
		{list(5, 9, 1), list(5, 9, 1)},
		{list(10, 12, 1, 5, 9, 1), list(5, 12, 1)},
		{list(10, 12, 2, 5, 9, 1, 13, 13, 2, 14, 14, 2), list(5, 9, 1, 10, 14, 2)},
		{list(5, 9, 1, 11, 12, 1), list(5, 9, 1, 11, 12, 1)},
		{list(5, 9, 1, 10, 10, 0, 11, 12, 1), list(5, 9, 1, 11, 12, 1)},
		{list(last, last, 3, 0, 0, 2, 1, last-1, 3), list(0, 0, 2, 1, last, 3)},
	} {
		given := slices.Clone(c.l)
		p, errno := property.Make(names, c.l)
		if errno != api.OK || !slices.Equal(p.Names, names) || !slices.Equal(p.Spans, c.want) || !slices.Equal(c.l, given) {
			t.Error(c, p, errno)
		}
	}
	p, _ := property.Make(names, nil)
	p.Names[0] = "X"
	if names[0] != "Other" {
		t.Error("the names share memory")
	}
}

func TestMakeErrors(t *testing.T) {
	two := []string{"Other", "A"}
	for _, names := range badNames {
		for _, l := range [][]api.Span{nil, list(5, 4, 9), list(5, 9, 0, 5, 9, 0)} {
			if p, errno := property.Make(names, l); errno != api.ErrName || !same(p, api.Property{}) {
				t.Error(names, l, errno)
			}
		}
	}
	for _, c := range []struct {
		l    []api.Span
		want api.Errno
	}{
		{list(-1, 5, 0), api.ErrRange},
		{list(5, last+1, 0), api.ErrRange},
		{list(5, 4, 0), api.ErrRange},
		{list(math.MaxInt, math.MinInt, 1), api.ErrRange},
		{list(5, 9, 2), api.ErrRange},
		{list(5, 9, -1), api.ErrRange},
		{list(5, 9, 1, 5, 9, 1, 5, 9, 2), api.ErrRange},
		{list(5, 9, 1, 9, 12, 1), api.ErrTwice},
		{list(5, 9, 0, 5, 9, 0), api.ErrTwice},
		{list(0, last, 0, 20, 30, 1), api.ErrTwice},
		{list(20, 30, 1, 0, 5, 1, 10, 20, 1), api.ErrTwice},
	} {
		if p, errno := property.Make(two, c.l); errno != c.want || !same(p, api.Property{}) {
			t.Error(c.l, errno)
		}
	}
}

// P10.2

func TestGetNameFindSet(t *testing.T) {
	p := of(5, 9, 1, 10, 10, 3, 12, 20, 1)
	for c, want := range map[int]int{4: 0, 5: 1, 9: 1, 10: 3, 11: 0, 12: 1, 20: 1, 21: 0, -1: 0, last: 0, last + 1: 0, math.MaxInt: 0, math.MinInt: 0} {
		if value, name := property.Get(p, c), property.Name(p, c); value != want || name != p.Names[want] {
			t.Error(c, value, name)
		}
	}
	whole := of(0, last, 2)
	for c, want := range map[int]int{-1: 0, 0: 2, last: 2, last + 1: 0, math.MaxInt: 0} {
		if value, name := property.Get(whole, c), property.Name(whole, c); value != want || name != whole.Names[want] {
			t.Error(c, value, name)
		}
	}
	for i, name := range p.Names {
		if value, ok := property.Find(p, name); value != i || !ok {
			t.Error(name, value, ok)
		}
	}
	for _, name := range []string{"", "a", "other", "D", "Other ", "AB"} {
		if value, ok := property.Find(p, name); value != 0 || ok {
			t.Error(name, value, ok)
		}
	}
	for value, want := range map[int]string{0: "0000..0004 000B 0015..10FFFF", 1: "0005..0009 000C..0014", 2: "", 3: "000A", 4: "", -1: "", math.MinInt: ""} {
		if set := property.Set(p, value); cpset.Text(set) != want || !cpset.Valid(set) {
			t.Error(value, set)
		}
	}
}

func TestPropertiesThatAreNotValidHaveTheNameOther(t *testing.T) {
	for _, p := range invalid() {
		for _, c := range []int{-1, 0, 5, 6, 9, 0x41, last, math.MaxInt} {
			if value, name := property.Get(p, c), property.Name(p, c); value != 0 || name != "Other" {
				t.Error(p, c, value, name)
			}
		}
		if value, ok := property.Find(p, "Other"); value != 0 || !ok {
			t.Error(p, value, ok)
		}
		for _, name := range []string{"A", "B", "", "n0"} {
			if value, ok := property.Find(p, name); value != 0 || ok {
				t.Error(p, name, value, ok)
			}
		}
		for value := -1; value < 5; value++ {
			want := api.Set{}
			if value == 0 {
				want = cpset.Not(want)
			}
			if set := property.Set(p, value); !slices.Equal(set.Ranges, want.Ranges) {
				t.Error(p, value, set)
			}
		}
		if s, errno := property.Text(p); s != "" || errno != api.ErrData {
			t.Error(p, s, errno)
		}
	}
	// The name of the value 0 is the first name, whatever it is.
	p := api.Property{Names: []string{"A", "Other"}, Spans: list(5, 9, 1)}
	if property.Name(p, 4) != "A" || property.Name(p, 5) != "Other" || property.Name(p, -1) != "A" {
		t.Error(p)
	}
}

// P10.3

func TestText(t *testing.T) {
	for _, c := range []struct {
		p    api.Property
		want string
	}{
		{of(), "@names Other A B C\n"},
		{api.Property{Names: []string{"Other", "Lu"}, Spans: list(0x41, 0x5A, 1)}, "@names Other Lu\n0041..005A; Lu\n"},
		{of(0, 0, 3, 1, 1, 1, 0x10FFFE, last, 3), "@names Other A B C\n0000; C\n0001; A\n10FFFE..10FFFF; C\n"},
	} {
		if s, errno := property.Text(c.p); s != c.want || errno != api.OK {
			t.Errorf("%q, not %q; %v", s, c.want, errno)
		}
	}
}

func TestParse(t *testing.T) {
	for _, c := range []struct {
		s    string
		want api.Property
	}{
		{"@names x", api.Property{Names: []string{"x"}}},
		{"@names Other A B C", of()},
		{"\n\n@names Other A B C\n", of()},
		{"@names Other Lu\n0041..005A; Lu", api.Property{Names: []string{"Other", "Lu"}, Spans: list(0x41, 0x5A, 1)}},
		{"@names Other A B C\n# comment\n\n 0009;A\t# comment; #\n  0005..0008 ; A \r\n0004; Other\n0010; C\n0003; C", of(3, 3, 3, 5, 9, 1, 16, 16, 3)},
		// Lines may be in any order, and the names are what stands in the first line.
		{"@names C A\n0002; A\n0001; A\n0003..0009; C", api.Property{Names: []string{"C", "A"}, Spans: list(1, 2, 1)}},
	} {
		if p, fault := property.Parse(c.s); !same(p, c.want) || fault != (api.Fault{}) {
			t.Errorf("%q: %v %v", c.s, p, fault)
		}
	}
	names := "@names " + strings.Join(count(250), " ") + "\n0001; n249"
	if p, fault := property.Parse(names); fault != (api.Fault{}) || property.Get(p, 1) != 249 {
		t.Error(fault)
	}
}

func TestParseFaults(t *testing.T) {
	for _, c := range []struct {
		s     string
		errno api.Errno
		at    int
	}{
		{strings.Repeat("\n", api.MaxText+1), api.ErrSize, 0},
		{"@names Other\n#" + strings.Repeat("x", api.MaxText), api.ErrSize, 0},
		{"", api.ErrSyntax, 1},
		{"\n", api.ErrSyntax, 1},
		{"\n\n\n", api.ErrSyntax, 1},
		{strings.Repeat("\n", api.MaxText), api.ErrSyntax, 1},
		{" ", api.ErrSyntax, 1},
		{"\n \n@names A", api.ErrSyntax, 2},
		{"# comment\n@names A", api.ErrSyntax, 1},
		{"\r\n@names A", api.ErrSyntax, 1},
		{"@names", api.ErrSyntax, 1},
		{"@names\nOther", api.ErrSyntax, 1},
		{"@names ", api.ErrSyntax, 1},
		{" @names A", api.ErrSyntax, 1},
		{"@names  A", api.ErrSyntax, 1},
		{"@names A ", api.ErrSyntax, 1},
		{"@names A  B", api.ErrSyntax, 1},
		{"@name A", api.ErrSyntax, 1},
		{"@namesA", api.ErrSyntax, 1},
		{"@names\tA", api.ErrSyntax, 1},
		{"names A", api.ErrSyntax, 1},
		{"\n\n0041; A\n@names A", api.ErrSyntax, 3},
		// Whatever is not a blank may be in a word, but not in a name.
		{"@names A\r", api.ErrName, 1},
		{"@names A\tB", api.ErrName, 1},
		{"\n@names A # comment", api.ErrName, 2},
		{"@names A-", api.ErrName, 1},
		{"\n\n@names A B A\nx", api.ErrName, 3},
		{"@names " + strings.Repeat("x", 33), api.ErrName, 1},
		{"@names " + strings.Join(count(251), " "), api.ErrName, 1},
		{"@names @names", api.ErrName, 1},
		// The other lines: each error is looked for in all of them before the next one.
		{"@names A\n\n41; A\n0041\n0041; B", api.ErrSyntax, 3},
		{"\n@names A\n0041; B\n0042\n0043; A; A\nx", api.ErrSyntax, 6},
		{"\n@names A\n0041; B\n0042\n0043; A; A", api.ErrSyntax, 4},
		{"\n@names A\n0041; B\n0043; A; A", api.ErrSyntax, 4},
		{"@names A B\n0041; A\n0041; A\n0041; C\n0041; D", api.ErrName, 4},
		{"@names A\n0041;", api.ErrName, 2},
		{"@names A\n0041; A A", api.ErrName, 2},
		{"@names A\n0041; a", api.ErrName, 2},
		{"@names A B\n0041..0043; B\n0050; B\n# comment\n0045; B\n0043..0044; B\n0050; B", api.ErrTwice, 6},
		{"@names A B\n0041; A\n0041; A", api.ErrTwice, 3},
		{"@names A B\n0041; B\n0000..10FFFF; A", api.ErrTwice, 3},
		{"\n@names A B\n@names A B", api.ErrSyntax, 3},
	} {
		if p, fault := property.Parse(c.s); fault != (api.Fault{Errno: c.errno, At: c.at}) || !same(p, api.Property{}) {
			t.Errorf("%.60q: %v", c.s, fault)
		}
	}
}

// P10.4

func TestRandomProperties(t *testing.T) {
	r := rand.New(rand.NewSource(1))
	for range 300 {
		names := count(1 + r.Intn(6))
		values := map[int]int{}
		var l []api.Span
		for lo := r.Intn(100); lo < 3000; {
			s := api.Span{Lo: lo, Hi: lo + r.Intn(100), Value: r.Intn(len(names))}
			for c := s.Lo; c <= s.Hi; c++ {
				values[c] = s.Value
			}
			l = append(l, s)
			lo = s.Hi + 1 + r.Intn(2)*r.Intn(300)
		}
		r.Shuffle(len(l), func(i, j int) { l[i], l[j] = l[j], l[i] })
		p, errno := property.Make(names, l)
		if errno != api.OK || !property.Valid(p) {
			t.Fatal(names, l, errno)
		}
		s, errno := property.Text(p)
		if back, fault := property.Parse(s); errno != api.OK || fault != (api.Fault{}) || !same(back, p) {
			t.Fatal(s, errno, fault)
		}
		checkDivision(t, p)
		for c := range 3200 {
			if property.Get(p, c) != values[c] || property.Name(p, c) != names[values[c]] {
				t.Fatal(p, c)
			}
		}
	}
}

// checkDivision checks that the sets of all values divide the code points, and have the elements with the value.
func checkDivision(t *testing.T, p api.Property) {
	var union api.Set
	elements := 0
	for value := range p.Names {
		set := property.Set(p, value)
		elements += cpset.Count(set)
		union = cpset.Or(union, set)
		for _, r := range set.Ranges {
			if property.Get(p, r.Lo) != value || property.Get(p, r.Hi) != value {
				t.Fatal(p, value, r)
			}
		}
	}
	if elements != api.MaxCode+1 || cpset.Count(union) != api.MaxCode+1 {
		t.Fatal(p, elements)
	}
}

func TestValidPropertiesAreDivided(t *testing.T) {
	for _, p := range valid {
		checkDivision(t, p)
		s, errno := property.Text(p)
		if back, fault := property.Parse(s); errno != api.OK || fault != (api.Fault{}) || !same(back, p) {
			t.Error(p, errno, fault)
		}
	}
}
