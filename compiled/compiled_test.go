package compiled_test

import (
	"math"
	"math/rand"
	"reflect"
	"slices"
	"testing"

	"unicodetext/api"
	"unicodetext/compiled"
	"unicodetext/cpset"
	"unicodetext/database"
	"unicodetext/mapping"
	"unicodetext/multistage"
	"unicodetext/ordering"
	"unicodetext/property"
	"unicodetext/seqpool"
)

// usual returns a database in which every part has something of its own.
func usual(t testing.TB) api.Database {
	t.Helper()
	d, name, fault := database.Parse([]api.File{
		{Name: "version", Text: "12.345"},
		{Name: "category", Text: "@names Other Lu Ll\n0041..005A; Lu\n0061..007A; Ll"},
		{Name: "width", Text: "@names Narrow Wide\n3000..4DFF; Wide\n10FFFF; Wide"},
		{Name: "script", Text: "@names Other Latin\n0041..007A; Latin"},
		{Name: "grapheme", Text: "@names Other CR\n000D; CR"},
		{Name: "word", Text: "@names Other Letter\n0061; Letter"},
		{Name: "sentence", Text: "@names Other Point\n002E; Point"},
		{Name: "line", Text: "@names Other Space\n0020; Space"},
		{Name: "classes", Text: "0300..0314; 230\n0315; 232\n0316..0319; 220"},
		{Name: "decomposition", Text: "00C5; 0041 030A\n00E5; <b> 0061\n00E5; <a> 0061 030A\n00A0; <x>\n212B; 00C5\nFB01..FB02; <compat> 0066 0069"},
		{Name: "exclusions", Text: "0958..095F"},
		{Name: "lower", Text: "0041; 0061\n03A3; 03C3\n03A3; <final> 03C2\n03A4; <final> 03C2\n03A5; <other> 03C5"},
		{Name: "upper", Text: "0061..0063; 0041\n00DF; 0053 0053\n00E0; <x> 0041"},
		{Name: "title", Text: "00DF; 0053 0073"},
		{Name: "fold", Text: "00DF; 0073 0073\n0041; 0061"},
		{Name: "cased", Text: "0041..005A"},
		{Name: "ignorable", Text: "0027"},
		{Name: "start", Text: "0041\n0000"},
		{Name: "continue", Text: "0030..0039\n10FFFF"},
		{Name: "medial", Text: "00B7"},
		{Name: "confusable", Text: "0430; 0061\n0435; \n0436; 0073 0073"},
	})
	if fault != (api.Fault{}) {
		t.Fatal(name, fault)
	}
	return d
}

// compile returns the tables of a valid database.
func compile(t testing.TB, d api.Database, widths ...int) api.Compiled {
	t.Helper()
	c, errno := compiled.Compile(d, widths)
	if errno != api.OK {
		t.Fatal(errno)
	}
	return c
}

// copied returns a compiled database that shares no memory with c.
func copied(c api.Compiled) api.Compiled {
	table := func(t api.Table) api.Table {
		stages := slices.Clone(t.Stages)
		for i := range stages {
			stages[i] = slices.Clone(stages[i])
		}
		return api.Table{Widths: slices.Clone(t.Widths), Stages: stages}
	}
	c.Names, c.Properties, c.Sets, c.Mappings = slices.Clone(c.Names), slices.Clone(c.Properties), slices.Clone(c.Sets), slices.Clone(c.Mappings)
	for i := range c.Names {
		c.Names[i] = slices.Clone(c.Names[i])
	}
	for _, l := range [][]api.Table{c.Properties, c.Sets, c.Mappings} {
		for i := range l {
			l[i] = table(l[i])
		}
	}
	c.Classes = table(c.Classes)
	c.Pool = api.Pool{Codes: slices.Clone(c.Pool.Codes), Starts: slices.Clone(c.Pool.Starts), Lengths: slices.Clone(c.Pool.Lengths)}
	return c
}

// table returns the table of values.
func table(t testing.TB, widths []int, l ...api.Span) api.Table {
	t.Helper()
	built, errno := multistage.Build(l, widths)
	if errno != api.OK {
		t.Fatal(errno)
	}
	return built
}

// P16.1

func TestCompile(t *testing.T) {
	one := func(c, value int) api.Span { return api.Span{Lo: c, Hi: c, Value: value} }
	d := usual(t)
	for _, widths := range [][]int{{8, 4}, {9}, {12}, {5, 4, 7}} {
		var properties, sets, mappings []api.Table
		var names [][]string
		for i := range api.PropertyCount {
			p := database.Property(d, i)
			names = append(names, p.Names)
			properties = append(properties, table(t, widths, p.Spans...))
		}
		for i := range api.SetCount {
			var l []api.Span
			for _, r := range database.Set(d, i).Ranges {
				l = append(l, api.Span{Lo: r.Lo, Hi: r.Hi, Value: 1})
			}
			sets = append(sets, table(t, widths, l...))
		}
		for _, l := range [][]api.Span{
			{one(0xC5, 1), one(0x212B, 2)},
			{one(0xA0, 3), one(0xE5, 4), {Lo: 0xFB01, Hi: 0xFB02, Value: 5}},
			{one(0x41, 6), one(0x3A3, 7)},
			{{Lo: 0x3A3, Hi: 0x3A4, Value: 8}},
			{{Lo: 0x61, Hi: 0x63, Value: 9}, one(0xDF, 10)},
			{one(0xDF, 11)},
			{one(0x41, 6), one(0xDF, 12)},
			{one(0x430, 6), one(0x435, 3), one(0x436, 12)},
		} {
			mappings = append(mappings, table(t, widths, l...))
		}
		want := api.Compiled{
			Version: api.Version{Major: 12, Minor: 345}, Names: names, Properties: properties,
			Classes: table(t, widths, d.Norm.Classes...), Sets: sets, Mappings: mappings,
			Pool: seqpool.Pack([][]int{{0x41, 0x30A}, {0xC5}, {}, {0x61, 0x30A}, {0x66, 0x69}, {0x61}, {0x3C3}, {0x3C2}, {0x41}, {0x53, 0x53}, {0x53, 0x73}, {0x73, 0x73}}),
		}
		if got := compile(t, d, widths...); !reflect.DeepEqual(got, want) {
			t.Errorf("%v: %v", widths, got.Pool)
		}
	}
}

func TestCompileEmpty(t *testing.T) {
	c := compile(t, database.Empty(), 8, 4)
	if len(c.Pool.Codes)+len(c.Pool.Starts)+len(c.Pool.Lengths) != 0 || c.Version != (api.Version{}) || !compiled.Valid(c) {
		t.Error(c.Pool, c.Version)
	}
	for _, l := range [][]api.Table{c.Properties, {c.Classes}, c.Sets, c.Mappings} {
		for _, built := range l {
			if !reflect.DeepEqual(built, table(t, []int{8, 4})) {
				t.Error(built)
			}
		}
	}
}

func TestErrorsOfCompile(t *testing.T) {
	bad := func(do func(d *api.Database)) api.Database {
		d := usual(t)
		do(&d)
		return d
	}
	for i, c := range []struct {
		d      api.Database
		widths []int
		errno  api.Errno
	}{
		{bad(func(d *api.Database) { d.Version.Major = -1 }), nil, api.ErrRange},
		{bad(func(d *api.Database) { d.Word.Names = nil }), []int{8, 4}, api.ErrData},
		{bad(func(d *api.Database) { d.Norm.Classes[0].Value = 255 }), nil, api.ErrData},
		{bad(func(d *api.Database) { d.Case.Fold = slices.Concat(d.Case.Fold, d.Case.Fold) }), []int{99}, api.ErrTwice},
		{usual(t), nil, api.ErrRange},
		{usual(t), []int{8}, api.ErrRange},
		{usual(t), []int{13}, api.ErrRange},
		{usual(t), []int{0, 9}, api.ErrRange},
		{usual(t), []int{12, 5}, api.ErrRange},
		{usual(t), []int{3, 3, 3, 3}, api.ErrRange},
		{usual(t), []int{math.MaxInt, math.MaxInt}, api.ErrRange},
	} {
		if got, errno := compiled.Compile(c.d, c.widths); errno != c.errno || !reflect.DeepEqual(got, api.Compiled{}) {
			t.Error(i, errno)
		}
	}
}

// invalid returns compiled databases that are not valid.
func invalid(t testing.TB) []api.Compiled {
	var l []api.Compiled
	usual := compile(t, usual(t), 8, 4)
	add := func(do func(c *api.Compiled)) {
		c := copied(usual)
		do(&c)
		l = append(l, c)
	}
	last := func(t *api.Table) []int { return t.Stages[len(t.Stages)-1] }
	add(func(c *api.Compiled) { *c = api.Compiled{} })
	add(func(c *api.Compiled) { c.Names = c.Names[1:] })
	add(func(c *api.Compiled) { c.Names = append(c.Names, []string{"a"}) })
	add(func(c *api.Compiled) { c.Names[6] = nil })
	add(func(c *api.Compiled) { c.Names[0] = c.Names[0][:2] })
	add(func(c *api.Compiled) { c.Properties = c.Properties[:6] })
	add(func(c *api.Compiled) { c.Properties = append(c.Properties, c.Classes) })
	add(func(c *api.Compiled) { last(&c.Properties[3])[0x0D] = -1 })
	add(func(c *api.Compiled) { c.Properties[3].Widths = nil })
	add(func(c *api.Compiled) { c.Classes.Stages[0][0] = 1 })
	add(func(c *api.Compiled) { last(&c.Classes)[slices.Index(last(&c.Classes), 230)] = 255 })
	add(func(c *api.Compiled) { last(&c.Classes)[0] = -1 })
	add(func(c *api.Compiled) { c.Sets = c.Sets[:5] })
	add(func(c *api.Compiled) { c.Sets = append(c.Sets, c.Sets[0]) })
	add(func(c *api.Compiled) { last(&c.Sets[0])[0] = 2 })
	add(func(c *api.Compiled) { last(&c.Sets[5])[0] = -1 })
	add(func(c *api.Compiled) { c.Mappings = c.Mappings[:7] })
	add(func(c *api.Compiled) { c.Mappings = append(c.Mappings, c.Mappings[0]) })
	add(func(c *api.Compiled) { last(&c.Mappings[7])[0] = 13 })
	add(func(c *api.Compiled) { last(&c.Mappings[0])[0] = -1 })
	add(func(c *api.Compiled) { c.Mappings[4].Stages = c.Mappings[4].Stages[:2] })
	add(func(c *api.Compiled) { c.Pool.Starts = c.Pool.Starts[1:] })
	add(func(c *api.Compiled) { c.Pool.Starts[0] = len(c.Pool.Codes) })
	add(func(c *api.Compiled) { c.Pool = api.Pool{} })
	return l
}

// P16.2

func TestValid(t *testing.T) {
	for i, c := range invalid(t) {
		if compiled.Valid(c) {
			t.Error(i)
		}
	}
	usual := compile(t, usual(t), 8, 4)
	for i, do := range []func(c *api.Compiled){
		func(c *api.Compiled) {},
		func(c *api.Compiled) { c.Version = api.Version{Major: -1, Minor: math.MaxInt} },
		func(c *api.Compiled) { c.Names[0] = append(c.Names[0], "", "a b", "Lu") },
		func(c *api.Compiled) { c.Classes = table(t, []int{9}, api.Span{Lo: 5, Hi: 5, Value: 254}) },
		func(c *api.Compiled) { c.Sets[2] = table(t, []int{4, 4, 4}, api.Span{Lo: 5, Hi: 5, Value: 1}) },
		func(c *api.Compiled) { c.Mappings[2] = table(t, []int{4, 5}, api.Span{Lo: 5, Hi: 5, Value: 12}) },
		func(c *api.Compiled) { c.Pool.Codes[0] = -7 },
		func(c *api.Compiled) { c.Pool, _ = seqpool.Add(c.Pool, []int{1, 2}) },
	} {
		c := copied(usual)
		do(&c)
		if !compiled.Valid(c) {
			t.Error(i)
		}
	}
}

func TestNothingInWhatIsNotValid(t *testing.T) {
	for i, c := range invalid(t) {
		for _, code := range []int{-1, 0, 0x0D, 0x41, 0x61, 0xC5, 0x300, 0x430, 0x10FFFF, 0x110000} {
			for part := -1; part <= 8; part++ {
				to, ok := compiled.Mapping(c, part, code)
				if compiled.Property(c, part, code) != "" || compiled.Class(c, code) != 0 || compiled.Has(c, part, code) || len(to) != 0 || ok {
					t.Errorf("%d: %d, %X", i, part, code)
				}
			}
		}
		if s, errno := compiled.Image(c); s != "" || errno != api.ErrData {
			t.Error(i, errno)
		}
	}
}

func TestUnknownIndices(t *testing.T) {
	c := compile(t, usual(t), 8, 4)
	for _, i := range []int{-1, 8, math.MinInt, math.MaxInt} {
		if to, ok := compiled.Mapping(c, i, 0x41); len(to) != 0 || ok {
			t.Error(i, to)
		}
		for _, code := range []int{0, 0x41, -1} {
			if compiled.Property(c, i, code) != "" || compiled.Has(c, i, code) {
				t.Error(i, code)
			}
		}
	}
	if compiled.Property(c, 7, 0x41) != "" || compiled.Has(c, 6, 0x41) || compiled.Has(c, 7, 0x41) {
		t.Error("the index after the last one")
	}
}

func TestTargetsShareNoMemory(t *testing.T) {
	c := compile(t, usual(t), 8, 4)
	to, _ := compiled.Mapping(c, api.MapCanonical, 0xC5)
	clear(to)
	if to, _ := compiled.Mapping(c, api.MapCanonical, 0xC5); !slices.Equal(to, []int{0x41, 0x30A}) {
		t.Error(to)
	}
	d := usual(t)
	compile(t, d, 8, 4).Names[0][0] = "changed"
	if !database.Equal(d, usual(t)) {
		t.Error("the database has changed")
	}
}

// target returns the mapping of a kind by the definition.
func target(d api.Database, kind, code int) ([]int, bool) {
	switch kind {
	case api.MapCanonical:
		return mapping.Get(d.Norm.Decomp, code, "")
	case api.MapCompat:
		for _, m := range d.Norm.Decomp {
			if m.From == code && m.Tag != "" {
				return m.To, true
			}
		}
		return nil, false
	case api.MapFinal:
		return mapping.Get(d.Case.Lower, code, "final")
	}
	l := map[int][]api.Mapping{api.MapLower: d.Case.Lower, api.MapUpper: d.Case.Upper, api.MapTitle: d.Case.Title, api.MapFold: d.Case.Fold, api.MapConfusable: d.Confusable}[kind]
	return mapping.Get(l, code, "")
}

// agree checks that a compiled database has what the database has for a number.
func agree(t *testing.T, c api.Compiled, d api.Database, code int) {
	t.Helper()
	for i := range api.PropertyCount {
		if got := compiled.Property(c, i, code); got != property.Name(database.Property(d, i), code) {
			t.Fatalf("Property(%d, %X) = %s", i, code, got)
		}
	}
	if got := compiled.Class(c, code); got != ordering.Class(d.Norm.Classes, code) {
		t.Fatalf("Class(%X) = %d", code, got)
	}
	for i := range api.SetCount {
		if got := compiled.Has(c, i, code); got != cpset.Has(database.Set(d, i), code) {
			t.Fatalf("Has(%d, %X) = %v", i, code, got)
		}
	}
	for i := range api.MapCount {
		want, has := target(d, i, code)
		if got, ok := compiled.Mapping(c, i, code); !slices.Equal(got, want) || ok != has {
			t.Fatalf("Mapping(%d, %X) = %X, %v", i, code, got, ok)
		}
	}
}

// P16.4

func TestCompiledAgreesWithTheDatabase(t *testing.T) {
	r := rand.New(rand.NewSource(1))
	codes := []int{-1, 0x110000, math.MinInt, math.MaxInt, 0, 0x0D, 0x20, 0x27, 0x2E, 0x300, 0x314, 0x315, 0x316, 0x319, 0x31A, 0x3A3, 0x3A4, 0x3A5, 0x430, 0x435, 0x436, 0x958, 0x212B, 0x3000, 0x4DFF, 0x4E00, 0xFB01, 0xFB02, 0xFB03, 0x10FFFE, 0x10FFFF}
	for c := 0x40; c < 0x100; c += 3 {
		codes = append(codes, c, c+r.Intn(3))
	}
	for range 40 {
		codes = append(codes, r.Intn(api.MaxCode+1))
	}
	d := usual(t)
	for _, widths := range [][]int{{8, 4}, {9}, {4, 4, 8}} {
		c := compile(t, d, widths...)
		for _, code := range codes {
			agree(t, c, d, code)
		}
	}
}

// All code points of a table are looked at without looking up each of them.
func TestTablesAgreeForEveryCodePoint(t *testing.T) {
	d := usual(t)
	for _, widths := range [][]int{{8, 4}, {12, 4}, {1, 2, 6}} {
		c := compile(t, d, widths...)
		for i := range api.PropertyCount {
			if !slices.Equal(multistage.Spans(c.Properties[i]), database.Property(d, i).Spans) {
				t.Error(widths, i)
			}
		}
		for i := range api.MapCount {
			covered := 0
			for _, s := range multistage.Spans(c.Mappings[i]) {
				to, _ := seqpool.Get(c.Pool, s.Value-1)
				for code := s.Lo; code <= s.Hi; code++ {
					covered++
					if want, ok := target(d, i, code); !ok || !slices.Equal(to, want) {
						t.Errorf("%v: %d, %X: %X", widths, i, code, to)
					}
				}
			}
			if covered == 0 {
				t.Error(widths, i)
			}
		}
	}
}
