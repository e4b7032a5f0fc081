package mapping_test

import (
	"cmp"
	"math"
	"math/rand"
	"slices"
	"strconv"
	"strings"
	"testing"

	"unicodetext/api"
	"unicodetext/cpset"
	"unicodetext/lines"
	"unicodetext/mapping"
)

// to returns a mapping without a tag.
func to(from int, codes ...int) api.Mapping {
	return api.Mapping{From: from, To: codes}
}

// tagged returns a mapping with a tag.
func tagged(tag string, from int, codes ...int) api.Mapping {
	return api.Mapping{From: from, To: codes, Tag: tag}
}

func same(a, b []api.Mapping) bool {
	return slices.EqualFunc(a, b, func(x, y api.Mapping) bool {
		return x.From == y.From && x.Tag == y.Tag && slices.Equal(x.To, y.To)
	})
}

// clone copies mappings.
func clone(l []api.Mapping) []api.Mapping {
	l = slices.Clone(l)
	for i := range l {
		l[i].To = slices.Clone(l[i].To)
	}
	return l
}

// zeros returns a sequence of n code points.
func zeros(n int) []int {
	return make([]int, n)
}

var valid = [][]api.Mapping{
	nil,
	{},
	{to(0)},
	{to(0xC5, 0x41, 0x30A), tagged("compat", 0xFB01, 0x66, 0x69)},
	{to(5, 5), tagged("A", 5, 6), tagged("a", 5), tagged("a1", 5, 7), to(6, 0, api.MaxCode, 0xD800), tagged("_", api.MaxCode, zeros(64)...)},
	{tagged(strings.Repeat("x", 32), 1, 2), tagged("9", 2)},
}

// invalid returns mappings with errors; where several are wrong, the error is the one that is named first.
func invalid() map[api.Errno][][]api.Mapping {
	long := zeros(65)
	return map[api.Errno][][]api.Mapping{
		api.ErrRange: {
			{to(-1)}, {to(api.MaxCode + 1)}, {to(5, -1)}, {to(5, 6, api.MaxCode+1)}, {to(math.MinInt, math.MaxInt)},
			{to(1, long...), tagged("-", 2), to(1), to(0), to(3, -1)},
			{to(5, append(long, -1)...)},
		},
		api.ErrSize: {{to(5, long...)}, {tagged("-", 5), to(3), to(3), to(2, long...)}},
		api.ErrName: {
			{tagged("-", 5)}, {tagged(" ", 5)}, {tagged("a b", 5)}, {tagged("a>", 5)}, {tagged(strings.Repeat("x", 33), 5)}, {tagged("é", 5)},
			{to(5), to(5), to(4), tagged("x\n", 6)},
		},
		api.ErrTwice: {
			{to(5), to(5)}, {tagged("x", 5, 1), tagged("x", 5, 2)}, {to(5), to(9), to(7), to(5)}, {to(9), to(5), to(5)},
			{to(5), tagged("x", 5), to(6), tagged("x", 5)},
		},
		api.ErrOrder: {
			{to(6), to(5)}, {tagged("x", 5), to(5)}, {tagged("a", 5), tagged("B", 5)}, {tagged("ab", 5), tagged("a", 5)}, {to(1), to(3), to(2)},
		},
	}
}

// P11.1

func TestCheckAndMake(t *testing.T) {
	for _, l := range valid {
		made, errno := mapping.Make(l)
		if mapping.Check(l) != api.OK || errno != api.OK || !same(made, l) {
			t.Error(l, mapping.Check(l), made, errno)
		}
	}
	for want, lists := range invalid() {
		for _, l := range lists {
			if errno := mapping.Check(l); errno != want {
				t.Error(l, errno, want)
			}
			made, errno := mapping.Make(l)
			if want == api.ErrOrder {
				if errno != api.OK || mapping.Check(made) != api.OK || len(made) != len(l) {
					t.Error(l, made, errno)
				}
			} else if errno != want || len(made) != 0 {
				t.Error(l, made, errno)
			}
		}
	}
}

func TestMakeSorts(t *testing.T) {
	l := []api.Mapping{tagged("b", 7, 1), to(9, 2), tagged("ab", 7, 3), to(7, 4), tagged("B", 7), to(0, 5, 6), tagged("a", 7, 8)}
	given := clone(l)
	want := []api.Mapping{to(0, 5, 6), to(7, 4), tagged("B", 7), tagged("a", 7, 8), tagged("ab", 7, 3), tagged("b", 7, 1), to(9, 2)}
	made, errno := mapping.Make(l)
	if errno != api.OK || !same(made, want) || !same(l, given) {
		t.Error(made, errno)
	}
	made[0].To[0] = 99
	if !same(l, given) {
		t.Error("the targets share memory")
	}
}

// P11.2

func TestGetApplyFrom(t *testing.T) {
	l := []api.Mapping{to(0x41, 0x61), tagged("x", 0x41, 0x78, 0x79), to(0x43), to(0x44, 0x41, 0x41), tagged("y", 0x45, 0x41)}
	for _, c := range []struct {
		code int
		tag  string
		to   []int
		ok   bool
	}{
		{0x41, "", []int{0x61}, true},
		{0x41, "x", []int{0x78, 0x79}, true},
		{0x41, "y", nil, false},
		{0x41, "X", nil, false},
		{0x42, "", nil, false},
		{0x43, "", nil, true},
		{0x45, "", nil, false},
		{0x45, "y", []int{0x41}, true},
		{-1, "", nil, false},
		{math.MaxInt, "", nil, false},
		{0, "-", nil, false},
	} {
		if got, ok := mapping.Get(l, c.code, c.tag); !slices.Equal(got, c.to) || ok != c.ok {
			t.Errorf("%X %q: %X %v", c.code, c.tag, got, ok)
		}
	}
	text := []int{0x41, 0x42, 0x43, 0x44, 0x45, -1, 0x41, math.MaxInt, 0x110000}
	for _, c := range []struct {
		tag  string
		want []int
		from string
	}{
		{"", []int{0x61, 0x42, 0x41, 0x41, 0x45, -1, 0x61, math.MaxInt, 0x110000}, "0041 0043..0044"},
		{"x", []int{0x78, 0x79, 0x42, 0x43, 0x44, 0x45, -1, 0x78, 0x79, math.MaxInt, 0x110000}, "0041"},
		{"y", []int{0x41, 0x42, 0x43, 0x44, 0x41, -1, 0x41, math.MaxInt, 0x110000}, "0045"},
		{"z", text, ""},
		{"-", text, ""},
	} {
		if got := mapping.Apply(l, c.tag, text); !slices.Equal(got, c.want) {
			t.Errorf("%q: %X", c.tag, got)
		}
		if from := mapping.From(l, c.tag); cpset.Text(from) != c.from || !cpset.Valid(from) {
			t.Error(c.tag, from)
		}
	}
	got, _ := mapping.Get(l, 0x41, "")
	got[0] = 99
	applied := mapping.Apply(nil, "", text)
	applied[0] = 99
	if l[0].To[0] != 0x61 || text[0] != 0x41 {
		t.Error("a result shares memory with an argument")
	}
}

func TestMappingsThatAreNotValidCountAsNone(t *testing.T) {
	for want, lists := range invalid() {
		for _, l := range lists {
			var text []int
			for _, m := range l {
				text = append(text, m.From)
				if to, ok := mapping.Get(l, m.From, m.Tag); len(to) != 0 || ok {
					t.Error(l, to)
				}
			}
			for _, m := range l {
				if got := mapping.Apply(l, m.Tag, text); !slices.Equal(got, text) {
					t.Error(l, got)
				}
				if from := mapping.From(l, m.Tag); len(from.Ranges) != 0 {
					t.Error(l, from)
				}
			}
			if s, errno := mapping.Text(l); s != "" || errno != want {
				t.Error(l, s, errno)
			}
		}
	}
}

// P11.3

func TestTextAndParse(t *testing.T) {
	for _, c := range []struct {
		l    []api.Mapping
		text string
	}{
		{nil, ""},
		{[]api.Mapping{to(0xC5, 0x41, 0x30A)}, "00C5; 0041 030A\n"},
		{[]api.Mapping{tagged("compat", 0xFB01, 0x66, 0x69)}, "FB01; <compat> 0066 0069\n"},
		{[]api.Mapping{to(0x41), tagged("x", 0x41)}, "0041; \n0041; <x>\n"},
		{[]api.Mapping{to(0, 0x10FFFF), tagged("_9", 0, 0xD800), to(0x10FFFF, zeros(64)...)}, "0000; 10FFFF\n0000; <_9> D800\n10FFFF; 0000" + strings.Repeat(" 0000", 63) + "\n"},
	} {
		if s, errno := mapping.Text(c.l); s != c.text || errno != api.OK {
			t.Errorf("%q, not %q; %v", s, c.text, errno)
		}
		if l, fault := mapping.Parse(c.text); !same(l, c.l) || fault != (api.Fault{}) {
			t.Errorf("%q: %v %v", c.text, l, fault)
		}
	}
}

func TestParse(t *testing.T) {
	l, fault := mapping.Parse("# head\n0041..0043; 0061\n\n 0042;<x>  \n0040 ;\t<a> 0030 0031 # comment; <\n0041;<b>\n0041;<a>\r\n0000..03FF;<all>")
	if fault != (api.Fault{}) || len(l) != 8+1024-1 || mapping.Check(l) != api.OK {
		t.Fatal(len(l), fault)
	}
	var others []api.Mapping
	for _, m := range l {
		if m.Tag != "all" {
			others = append(others, m)
		}
	}
	want := []api.Mapping{tagged("a", 0x40, 0x30, 0x31), to(0x41, 0x61), tagged("a", 0x41), tagged("b", 0x41), to(0x42, 0x61), tagged("x", 0x42), to(0x43, 0x61)}
	if !same(others, want) || !slices.Equal(cpset.Make([]api.Range{{Lo: 0, Hi: 0x3FF}}).Ranges, mapping.From(l, "all").Ranges) {
		t.Error(others)
	}
	two, _ := mapping.Parse("0041..0042; 0061")
	two[0].To[0] = 99
	if two[1].To[0] != 0x61 {
		t.Error("the targets share memory")
	}
}

func TestParseFaults(t *testing.T) {
	long := strings.Repeat("0030 ", 64) + "0030"
	for _, c := range []struct {
		s     string
		errno api.Errno
		at    int
	}{
		{strings.Repeat("\n", api.MaxText+1), api.ErrSize, 0},
		{"0041; 0061\nx", api.ErrSyntax, 2},
		{"0041; x\n0041; " + long + "\n0041; 0061\n41; 0061", api.ErrSyntax, 4},
		{"\n0041", api.ErrSyntax, 2},
		{"0041; 0061; 0062", api.ErrSyntax, 1},
		{"0041; 0061;", api.ErrSyntax, 1},
		{"0041; 61", api.ErrSyntax, 1},
		{"0041; 0061  0062", api.ErrSyntax, 1},
		{"0041; 0061\t0062", api.ErrSyntax, 1},
		{"0041; 110000", api.ErrSyntax, 1},
		{"0041; 006a", api.ErrSyntax, 1},
		{"0041; <>", api.ErrSyntax, 1},
		{"0041; <", api.ErrSyntax, 1},
		{"0041; <x", api.ErrSyntax, 1},
		{"0041; x> 0061", api.ErrSyntax, 1},
		{"0041; < x> 0061", api.ErrSyntax, 1},
		{"0041; <x >", api.ErrSyntax, 1},
		{"0041; <x-y>", api.ErrSyntax, 1},
		{"0041; <" + strings.Repeat("x", 33) + ">", api.ErrSyntax, 1},
		{"0041; <x>0061", api.ErrSyntax, 1},
		{"0041; <x>  0061", api.ErrSyntax, 1},
		{"0041; <x>\t0061", api.ErrSyntax, 1},
		{"0041; <x> <y>", api.ErrSyntax, 1},
		{"0041; <<x>>", api.ErrSyntax, 1},
		{"0041; 0061 <x>", api.ErrSyntax, 1},
		// Each error is looked for in all lines before the next one.
		{"0041; " + long + "\n0041; 0061\n0041; 0061\n\n0042; 62", api.ErrSyntax, 5},
		{"0041; 0061\n0041; 0061\n0042; <x> " + long + "\n0000..0400; 0061", api.ErrSize, 3},
		{"0041; 0061\n0000..0400; 0061", api.ErrSize, 2},
		{"0000..10FFFF;", api.ErrSize, 1},
		{"0041; 0061\n0041; 0062", api.ErrTwice, 2},
		{"0041; 0061\n0042;\n0030..0041; 0061\n0042;", api.ErrTwice, 3},
		{"0041; <x>\n0041;\n0041; <y>\n# comment\n0041; <x> 0061\n0041;", api.ErrTwice, 5},
		{"0000..03FF;\n0400..07FF;\n03FF..0400;", api.ErrTwice, 3},
	} {
		if l, fault := mapping.Parse(c.s); fault != (api.Fault{Errno: c.errno, At: c.at}) || len(l) != 0 {
			t.Errorf("%.60q: %v", c.s, fault)
		}
	}
	if l, fault := mapping.Parse("0041; " + long[5:]); fault != (api.Fault{}) || len(l) != 1 || len(l[0].To) != 64 {
		t.Error(l, fault)
	}
}

// P11.4

// random returns valid mappings, in any order.
func random(r *rand.Rand) []api.Mapping {
	seen := map[string]bool{}
	var l []api.Mapping
	for range r.Intn(30) {
		m := api.Mapping{From: r.Intn(12), Tag: []string{"", "x", "xy", "A"}[r.Intn(4)]}
		for range r.Intn(4) {
			m.To = append(m.To, r.Intn(15))
		}
		if key := strconv.Itoa(m.From) + m.Tag; !seen[key] {
			seen[key] = true
			l = append(l, m)
		}
	}
	return l
}

func TestRandomMappings(t *testing.T) {
	r := rand.New(rand.NewSource(1))
	for range 1000 {
		l := random(r)
		made, errno := mapping.Make(l)
		if errno != api.OK || mapping.Check(made) != api.OK {
			t.Fatal(l, made, errno)
		}
		byKey := func(a, b api.Mapping) int { return cmp.Or(a.From-b.From, strings.Compare(a.Tag, b.Tag)) }
		if !same(made, slices.SortedFunc(slices.Values(l), byKey)) {
			t.Fatal(l, made)
		}
		s, errno := mapping.Text(made)
		if back, fault := mapping.Parse(s); errno != api.OK || fault != (api.Fault{}) || !same(back, made) {
			t.Fatal(s, errno, fault)
		}
		if rows, fault := lines.Parse(s); fault != (api.Fault{}) || len(rows) != len(made) {
			t.Fatal(s, fault)
		}
		checkTargets(t, r, made)
	}
}

// checkTargets checks what Get, Apply and From return, against a search of the mappings.
func checkTargets(t *testing.T, r *rand.Rand, l []api.Mapping) {
	t.Helper()
	for _, tag := range []string{"", "x", "xy", "A", "y"} {
		find := func(c int) ([]int, bool) {
			i := slices.IndexFunc(l, func(m api.Mapping) bool { return m.From == c && m.Tag == tag })
			if i < 0 {
				return nil, false
			}
			return l[i].To, true
		}
		from := mapping.From(l, tag)
		for c := -1; c < 15; c++ {
			want, found := find(c)
			if got, ok := mapping.Get(l, c, tag); ok != found || !slices.Equal(got, want) || cpset.Has(from, c) != found {
				t.Fatal(l, c, tag, got, ok)
			}
		}
		var texts, mapped [2][]int
		for i := range texts {
			for range r.Intn(6) {
				c := r.Intn(14) - 1
				texts[i] = append(texts[i], c)
				if to, ok := find(c); ok {
					mapped[i] = append(mapped[i], to...)
				} else {
					mapped[i] = append(mapped[i], c)
				}
			}
			if got := mapping.Apply(l, tag, texts[i]); !slices.Equal(got, mapped[i]) {
				t.Fatal(l, tag, texts[i], got)
			}
		}
		if got := mapping.Apply(l, tag, slices.Concat(texts[0], texts[1])); !slices.Equal(got, slices.Concat(mapped[0], mapped[1])) {
			t.Fatal(l, tag, texts, got)
		}
	}
}
