package database_test

import (
	"math"
	"reflect"
	"slices"
	"testing"

	"unicodetext/api"
	"unicodetext/database"
	"unicodetext/mapping"
)

// full returns a database in which every part has something of its own.
func full() api.Database {
	span := func(lo, hi, value int) []api.Span { return []api.Span{{Lo: lo, Hi: hi, Value: value}} }
	property := func(name string, at int) api.Property {
		return api.Property{Names: []string{"Other", name}, Spans: span(at, at+5, 1)}
	}
	set := func(lo, hi int) api.Set {
		return api.Set{Ranges: []api.Range{{Lo: lo, Hi: hi}, {Lo: hi + 2, Hi: hi + 2}}}
	}
	return api.Database{
		Version:  api.Version{Major: 12, Minor: 345},
		Category: property("Lu", 0x41), Width: property("W", 0x51), Script: property("Latn", 0x61), Grapheme: property("CR", 0x0D),
		Word: property("Letter", 0x71), Sentence: property("Point", 0x2E), Line: property("Space", 0x20),
		Norm: api.Norm{
			Classes:  []api.Span{{Lo: 0x300, Hi: 0x314, Value: 230}, {Lo: 0x315, Hi: 0x315, Value: 232}, {Lo: 0x316, Hi: 0x319, Value: 220}},
			Decomp:   []api.Mapping{{From: 0xC5, To: []int{0x41, 0x30A}}, {From: 0xFB01, To: []int{0x66, 0x69}, Tag: "compat"}},
			Excluded: set(0x958, 0x95F),
		},
		Case: api.Case{
			Lower: []api.Mapping{{From: 0x3A3, To: []int{0x3C3}}, {From: 0x3A3, To: []int{0x3C2}, Tag: "final"}},
			Upper: []api.Mapping{{From: 0xDF, To: []int{0x53, 0x53}}}, Title: []api.Mapping{{From: 0xDF, To: []int{0x53, 0x73}}},
			Fold: []api.Mapping{{From: 0xDF, To: []int{0x73, 0x73}}}, Cased: set(0x41, 0x5A), Ignorable: set(0x27, 0x27),
		},
		Ident:      api.Ident{Start: set(0x41, 0x5B), Continue: set(0x30, 0x39), Medial: set(0xB7, 0xB8)},
		Confusable: []api.Mapping{{From: 0x430, To: []int{0x61}}, {From: 0x435, To: nil}},
	}
}

// propertyAt returns the property with an index.
func propertyAt(d *api.Database, i int) *api.Property {
	return []*api.Property{&d.Category, &d.Width, &d.Script, &d.Grapheme, &d.Word, &d.Sentence, &d.Line}[i]
}

// setAt returns the set with an index.
func setAt(d *api.Database, i int) *api.Set {
	return []*api.Set{&d.Norm.Excluded, &d.Case.Cased, &d.Case.Ignorable, &d.Ident.Start, &d.Ident.Continue, &d.Ident.Medial}[i]
}

var propertyFiles = []string{"category", "width", "script", "grapheme", "word", "sentence", "line"}

var setFiles = []string{"exclusions", "cased", "ignorable", "start", "continue", "medial"}

var mappingFiles = []string{"decomposition", "lower", "upper", "title", "fold", "confusable"}

// mappingsAt returns the list of mappings in the file with an index among those of mappings.
func mappingsAt(d *api.Database, i int) *[]api.Mapping {
	return []*[]api.Mapping{&d.Norm.Decomp, &d.Case.Lower, &d.Case.Upper, &d.Case.Title, &d.Case.Fold, &d.Confusable}[i]
}

// allFiles are the names of the files, in order.
var allFiles = []string{"version", "category", "width", "script", "grapheme", "word", "sentence", "line", "classes", "decomposition",
	"exclusions", "lower", "upper", "title", "fold", "cased", "ignorable", "start", "continue", "medial", "confusable"}

// A damage puts an error into the part of a database that is in a file.
type damage struct {
	file  string
	errno api.Errno
	do    func(d *api.Database)
}

var invalidProperties = []api.Property{
	{}, {Names: []string{"a-b"}}, {Names: []string{"A", "A"}}, {Names: []string{"A", "B"}, Spans: []api.Span{{Lo: 1, Hi: 2, Value: 2}}},
	{Names: []string{"A", "B"}, Spans: []api.Span{{Lo: 1, Hi: 2, Value: 1}, {Lo: 3, Hi: 4, Value: 1}}},
}

var invalidClasses = [][]api.Span{
	{{Lo: 5, Hi: 5, Value: 0}}, {{Lo: 5, Hi: 5, Value: 255}}, {{Lo: 5, Hi: 5, Value: -1}}, {{Lo: 5, Hi: 4, Value: 1}}, {{Lo: -1, Hi: 4, Value: 1}},
	{{Lo: 5, Hi: api.MaxCode + 1, Value: 1}}, {{Lo: 5, Hi: 6, Value: 1}, {Lo: 6, Hi: 7, Value: 2}}, {{Lo: 5, Hi: 6, Value: 1}, {Lo: 7, Hi: 7, Value: 1}},
	{{Lo: 5, Hi: 6, Value: 1}, {Lo: 1, Hi: 2, Value: 2}}, {{Lo: 5, Hi: 6, Value: 1}, {Lo: 5, Hi: 6, Value: 1}},
}

var invalidSets = []api.Set{
	{Ranges: []api.Range{{Lo: 5, Hi: 4}}}, {Ranges: []api.Range{{Lo: -1, Hi: 4}}}, {Ranges: []api.Range{{Lo: 1, Hi: 2}, {Lo: 3, Hi: 4}}},
	{Ranges: []api.Range{{Lo: 5, Hi: 6}, {Lo: 1, Hi: 2}}}, {Ranges: []api.Range{{Lo: 5, Hi: api.MaxCode + 1}}},
}

var invalidMappings = [][]api.Mapping{
	{{From: -1}}, {{From: 5, To: make([]int, api.MaxExpand+1)}}, {{From: 5, Tag: "a-b"}}, {{From: 5}, {From: 5}}, {{From: 6}, {From: 5}},
	{{From: 6}, {From: 5, To: []int{api.MaxCode + 1}}},
}

var invalidVersions = []api.Version{
	{Major: -1}, {Minor: -1}, {Major: 10000}, {Minor: 10000}, {Major: math.MaxInt, Minor: 1}, {Major: 1, Minor: math.MinInt},
}

// damages returns all damages, in the order of the files.
func damages() []damage {
	l := []damage{}
	for _, v := range invalidVersions {
		l = append(l, damage{"version", api.ErrRange, func(d *api.Database) { d.Version = v }})
	}
	for i, file := range propertyFiles {
		for _, p := range invalidProperties {
			l = append(l, damage{file, api.ErrData, func(d *api.Database) { *propertyAt(d, i) = p }})
		}
	}
	for _, c := range invalidClasses {
		l = append(l, damage{"classes", api.ErrData, func(d *api.Database) { d.Norm.Classes = c }})
	}
	for i, file := range mappingFiles {
		for _, m := range invalidMappings {
			l = append(l, damage{file, mapping.Check(m), func(d *api.Database) { *mappingsAt(d, i) = m }})
		}
	}
	for i, file := range setFiles {
		for _, s := range invalidSets {
			l = append(l, damage{file, api.ErrData, func(d *api.Database) { *setAt(d, i) = s }})
		}
	}
	slices.SortStableFunc(l, func(a, b damage) int { return slices.Index(allFiles, a.file) - slices.Index(allFiles, b.file) })
	return l
}

// P12.1

func TestCheck(t *testing.T) {
	for _, d := range []api.Database{full(), database.Empty()} {
		if errno := database.Check(d); errno != api.OK {
			t.Error(errno)
		}
	}
	edges := full()
	edges.Version = api.Version{Major: 9999, Minor: 0}
	edges.Norm.Classes = []api.Span{{Lo: 0, Hi: 0, Value: 1}, {Lo: 1, Hi: api.MaxCode, Value: 254}}
	if errno := database.Check(edges); errno != api.OK {
		t.Error(errno)
	}
	if errno := database.Check(api.Database{}); errno != api.ErrData { // properties without names
		t.Error(errno)
	}
	l := damages()
	for i, one := range l {
		d := full()
		one.do(&d)
		if errno := database.Check(d); errno != one.errno || errno == api.OK {
			t.Error(one.file, errno)
		}
		for _, later := range l[i:] { // what comes later in the order of the files changes nothing
			if later.file != one.file {
				both := full()
				later.do(&both)
				one.do(&both)
				if errno := database.Check(both); errno != one.errno {
					t.Error(one.file, later.file, errno)
				}
			}
		}
	}
}

// What only layers 20, 21 and 37 require is no error.
func TestCheckLeavesTheRestToOtherLayers(t *testing.T) {
	d := full()
	d.Norm.Classes = []api.Span{{Lo: 0x1100, Hi: 0xD7A3, Value: 9}}
	d.Norm.Decomp = []api.Mapping{{From: 0x61, To: []int{0x61, 0x62, 0x63}}, {From: 0x61, Tag: "x"}, {From: 0xAC00}}
	d.Case.Upper = []api.Mapping{{From: 0x61, Tag: "other"}}
	if errno := database.Check(d); errno != api.OK {
		t.Error(errno)
	}
}

func TestEmpty(t *testing.T) {
	d := database.Empty()
	for i := range api.PropertyCount {
		p := propertyAt(&d, i)
		if !slices.Equal(p.Names, []string{"Other"}) {
			t.Error(i, p.Names)
		}
		p.Names[0] = "Changed"
		p.Names = nil
	}
	if !reflect.DeepEqual(d, api.Database{}) {
		t.Error(d)
	}
	again := database.Empty()
	for i := range api.PropertyCount {
		if propertyAt(&again, i).Names[0] != "Other" {
			t.Error(i)
		}
	}
}

// P12.2

func TestPropertyAndSet(t *testing.T) {
	d := full()
	for i := range api.PropertyCount {
		if p := database.Property(d, i); !reflect.DeepEqual(p, *propertyAt(&d, i)) {
			t.Error(i, p)
		}
	}
	for i := range api.SetCount {
		if s := database.Set(d, i); !reflect.DeepEqual(s, *setAt(&d, i)) {
			t.Error(i, s)
		}
	}
	for _, i := range []int{-1, 7, 8, math.MinInt, math.MaxInt} {
		if p := database.Property(d, i); len(p.Names) != 0 || len(p.Spans) != 0 {
			t.Error(i, p)
		}
		if s := database.Set(d, i); len(s.Ranges) != 0 {
			t.Error(i, s)
		}
	}
	if s := database.Set(d, 6); len(s.Ranges) != 0 {
		t.Error(s)
	}
}

func TestPropertyAndSetAreAsTheyAre(t *testing.T) {
	for i := range api.PropertyCount {
		for _, p := range invalidProperties {
			d := full()
			*propertyAt(&d, i) = p
			if got := database.Property(d, i); !slices.Equal(got.Names, p.Names) || !slices.Equal(got.Spans, p.Spans) {
				t.Error(i, got)
			}
		}
	}
	for i := range api.SetCount {
		for _, s := range invalidSets {
			d := full()
			*setAt(&d, i) = s
			if got := database.Set(d, i); !slices.Equal(got.Ranges, s.Ranges) {
				t.Error(i, got)
			}
		}
	}
}

func TestPropertyAndSetShareNoMemory(t *testing.T) {
	d := full()
	for i := range api.PropertyCount {
		p := database.Property(d, i)
		p.Names[1], p.Spans[0] = "Changed", api.Span{}
	}
	for i := range api.SetCount {
		s := database.Set(d, i)
		s.Ranges[0] = api.Range{}
	}
	if !reflect.DeepEqual(d, full()) {
		t.Error("the database has changed")
	}
}

func TestFiles(t *testing.T) {
	l := database.Files()
	if !slices.Equal(l, allFiles) {
		t.Error(l)
	}
	l[0] = "changed"
	if again := database.Files(); !slices.Equal(again, allFiles) {
		t.Error(again)
	}
}

// P12.4, Equal

// An alteration changes one part of the full database.
type alteration func(d *api.Database)

func alterations() []alteration {
	l := []alteration{
		func(d *api.Database) { d.Version.Major++ },
		func(d *api.Database) { d.Version.Minor++ },
		func(d *api.Database) { d.Norm.Classes[0].Value++ },
		func(d *api.Database) { d.Norm.Classes = d.Norm.Classes[:2] },
	}
	for i := range api.PropertyCount {
		l = append(l, func(d *api.Database) { propertyAt(d, i).Names[1] = "x" }, func(d *api.Database) { propertyAt(d, i).Spans[0].Hi++ },
			func(d *api.Database) { propertyAt(d, i).Names = append(propertyAt(d, i).Names, "y") }, func(d *api.Database) { propertyAt(d, i).Spans = nil })
	}
	for i := range api.SetCount {
		l = append(l, func(d *api.Database) { setAt(d, i).Ranges[0].Lo-- }, func(d *api.Database) { setAt(d, i).Ranges = nil })
	}
	for i := range mappingFiles {
		l = append(l,
			func(d *api.Database) { (*mappingsAt(d, i))[0].From++ },
			func(d *api.Database) { (*mappingsAt(d, i))[0].Tag += "x" },
			func(d *api.Database) { (*mappingsAt(d, i))[0].To[0]++ },
			func(d *api.Database) { (*mappingsAt(d, i))[0].To = nil },
			func(d *api.Database) { *mappingsAt(d, i) = (*mappingsAt(d, i))[:0] })
	}
	return l
}

func TestEqual(t *testing.T) {
	if !database.Equal(full(), full()) || !database.Equal(database.Empty(), database.Empty()) || !database.Equal(api.Database{}, api.Database{}) {
		t.Error("a database does not equal itself")
	}
	if database.Equal(full(), database.Empty()) || database.Equal(api.Database{}, database.Empty()) {
		t.Error("databases are not different")
	}
	for i, alter := range alterations() {
		d := full()
		alter(&d)
		if database.Equal(d, full()) || database.Equal(full(), d) || !database.Equal(d, d) {
			t.Error(i)
		}
	}
	for i, one := range damages() { // also of databases with errors
		d := full()
		one.do(&d)
		if database.Equal(d, full()) || !database.Equal(d, d) {
			t.Error(i, one.file)
		}
	}
}

func TestEqualTakesNilAndEmptyAsEqual(t *testing.T) {
	d := api.Database{Norm: api.Norm{Classes: []api.Span{}}}
	for i := range api.PropertyCount {
		*propertyAt(&d, i) = api.Property{Names: []string{}, Spans: []api.Span{}}
	}
	for i := range api.SetCount {
		setAt(&d, i).Ranges = []api.Range{}
	}
	for i := range mappingFiles {
		*mappingsAt(&d, i) = []api.Mapping{}
	}
	if !database.Equal(d, api.Database{}) || !database.Equal(api.Database{}, d) {
		t.Error("nil and empty lists differ")
	}
	a, b := full(), full()
	a.Confusable[1].To, b.Confusable[1].To = nil, []int{}
	if !database.Equal(a, b) {
		t.Error("nil and empty targets differ")
	}
}
