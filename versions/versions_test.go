package versions_test

import (
	"math"
	"math/rand"
	"slices"
	"strconv"
	"strings"
	"testing"

	"unicodetext/api"
	"unicodetext/cpset"
	"unicodetext/database"
	"unicodetext/escape"
	"unicodetext/property"
	"unicodetext/versions"
)

// parse returns the database of files, given as pairs of a name and contents.
func parse(t testing.TB, files ...string) api.Database {
	t.Helper()
	var l []api.File
	for i := 0; i < len(files); i += 2 {
		l = append(l, api.File{Name: files[i], Text: files[i+1]})
	}
	d, name, fault := database.Parse(l)
	if fault != (api.Fault{}) {
		t.Fatal(name, fault)
	}
	return d
}

// compare returns the changes between valid databases.
func compare(t testing.TB, a, b api.Database) []api.Change {
	t.Helper()
	l, errno := versions.Compare(a, b)
	if errno != api.OK {
		t.Fatal(errno)
	}
	return l
}

// P17.1, P17.2

func TestCompareAndText(t *testing.T) {
	for i, c := range []struct{ a, b, want string }{
		{"", "", ""},
		{"version:1.0", "version:2.7", ""},
		{"", "category:@names Other Lu\n0041; Lu", "category 0041..0041: Other -> Lu\n"},
		{"", "lower:0041; 0061\n0041; <x>", "lower 0041..0041:  -> >0061|x>\n"},
		{"lower:0041; 0061\n0041; <x>", "lower:0041; 0061", "lower 0041..0041: >0061|x> -> >0061\n"},
		{"upper:0061; <b> 0041 0301\n0061; <a> 0042", "", "upper 0061..0061: a>0042|b>0041 0301 -> \n"},
		{"title:0041..0043; 0061", "title:0042; 0061", "title 0041..0041: >0061 -> \ntitle 0043..0043: >0061 -> \n"},
		{"", "fold:0041..0043; 0061\n0044; 0062\n0046; 0062", "fold 0041..0043:  -> >0061\nfold 0044..0044:  -> >0062\nfold 0046..0046:  -> >0062\n"},
		{"classes:0300..0310; 230", "classes:0305..0315; 220\n0304; 230", "classes 0300..0303: 230 -> 0\nclasses 0305..0310: 230 -> 220\nclasses 0311..0315: 0 -> 220\n"},
		{"cased:0000..10FFFF", "cased:0041", "cased 0000..0040: yes -> no\ncased 0042..10FFFF: yes -> no\n"},
		{"width:@names Other A B\n0041; A\n0042; B", "width:@names Other B C A\n0041; A\n0042; B", ""},
		{"width:@names Other A B\n0041; A", "width:@names A C\n0042; C", "width 0000..0040: Other -> A\nwidth 0042..0042: Other -> C\nwidth 0043..10FFFF: Other -> A\n"},
		{"script:@names N A\n0040..0043; A", "script:@names N A B\n0040..0041; A\n0042..0044; B", "script 0042..0043: A -> B\nscript 0044..0044: N -> B\n"},
		{"exclusions:0005", "exclusions:0005\n0000\n10FFFF", "exclusions 0000..0000: no -> yes\nexclusions 10FFFF..10FFFF: no -> yes\n"},
		{"decomposition:00E2; 0061 0302\nconfusable:0041; ", "decomposition:00E2; <x> 0061 0302", "decomposition 00E2..00E2: >0061 0302 -> x>0061 0302\n"},
	} {
		a, b := read(t, c.a), read(t, c.b)
		l := compare(t, a, b)
		if got := versions.Text(l); got != c.want {
			t.Errorf("%d: %q", i, got)
		}
		for _, change := range l {
			if change.What != strings.Fields(c.want)[0] {
				t.Errorf("%d: %v", i, change)
			}
		}
	}
}

// read returns the database of the file that is written with its name in front.
func read(t *testing.T, s string) api.Database {
	t.Helper()
	if s == "" {
		return database.Empty()
	}
	name, contents, _ := strings.Cut(s, ":")
	contents, _, _ = strings.Cut(contents, "\nconfusable:")
	return parse(t, name, contents)
}

// The order of the changes is that of the files.
func TestCompareAllFiles(t *testing.T) {
	var l []string
	var want []api.Change
	for _, name := range database.Files()[1:] {
		contents, old, new := "0041", "no", "yes"
		switch name {
		case "category", "width", "script", "grapheme", "word", "sentence", "line":
			contents, old, new = "@names Other A_"+name+"\n0041; A_"+name, "Other", "A_"+name
		case "classes":
			contents, old, new = "0041; 7", "0", "7"
		case "decomposition", "lower", "upper", "title", "fold", "confusable":
			contents, old, new = "0041; "+strings.Repeat("0061 ", len(name))+"0062", "", ">"+strings.Repeat("0061 ", len(name))+"0062"
		}
		l = append(l, name, contents)
		want = append(want, api.Change{What: name, Range: api.Range{Lo: 0x41, Hi: 0x41}, Old: old, New: new})
	}
	if got := compare(t, database.Empty(), parse(t, l...)); len(got) != 20 || !slices.Equal(got, want) {
		t.Error(got)
	}
}

func TestCompareInvalid(t *testing.T) {
	good := parse(t, "cased", "0041")
	version, class, mapping := parse(t), parse(t), parse(t)
	version.Version.Minor = -1
	class.Norm.Classes = []api.Span{{Lo: 1, Hi: 1}}
	mapping.Confusable = []api.Mapping{{From: 1, Tag: "-"}}
	for i, c := range []struct {
		a, b  api.Database
		errno api.Errno
	}{
		{version, class, api.ErrRange}, {class, version, api.ErrData}, {mapping, class, api.ErrName}, {good, mapping, api.ErrName}, {mapping, good, api.ErrName}, {good, api.Database{}, api.ErrData}, {good, good, api.OK},
	} {
		if l, errno := versions.Compare(c.a, c.b); len(l) != 0 || errno != c.errno {
			t.Error(i, l, errno)
		}
	}
}

// P17.2

func TestAdditive(t *testing.T) {
	for i, c := range []struct {
		old  []string
		want bool
	}{
		{nil, true}, {[]string{"Other"}, true}, {[]string{"0"}, true}, {[]string{"no"}, true}, {[]string{""}, true}, {[]string{"", "no", "0", "Other"}, true},
		{[]string{"yes"}, false}, {[]string{"Lu"}, false}, {[]string{"220"}, false}, {[]string{">0061"}, false}, {[]string{"other"}, false}, {[]string{" "}, false}, {[]string{"Other", "yes", "0"}, false}, {[]string{"00"}, false},
	} {
		var l []api.Change
		for _, old := range c.old {
			l = append(l, api.Change{Old: old, New: "Lu"})
		}
		if got := versions.Additive(l); got != c.want {
			t.Error(i, got)
		}
	}
}

func TestNext(t *testing.T) {
	additive, other := []api.Change{{Old: "Other"}}, []api.Change{{Old: "no"}, {Old: "yes"}}
	for i, c := range []struct {
		v     api.Version
		l     []api.Change
		want  api.Version
		errno api.Errno
	}{
		{api.Version{Major: 1, Minor: 2}, nil, api.Version{Major: 1, Minor: 2}, api.OK},
		{api.Version{Major: 1, Minor: 2}, additive, api.Version{Major: 1, Minor: 3}, api.OK},
		{api.Version{Major: 1, Minor: 2}, other, api.Version{Major: 2}, api.OK},
		{api.Version{Major: 9999, Minor: 9999}, nil, api.Version{Major: 9999, Minor: 9999}, api.OK},
		{api.Version{Major: 9999, Minor: 9999}, additive, api.Version{}, api.ErrRange},
		{api.Version{Major: 9999, Minor: 9998}, additive, api.Version{Major: 9999, Minor: 9999}, api.OK},
		{api.Version{Major: 1, Minor: 9999}, additive, api.Version{}, api.ErrRange},
		{api.Version{Major: 1, Minor: 9999}, other, api.Version{Major: 2}, api.OK},
		{api.Version{Major: 9999}, other, api.Version{}, api.ErrRange},
		{api.Version{Major: 9998, Minor: 9999}, other, api.Version{Major: 9999}, api.OK},
		{api.Version{Major: -1}, nil, api.Version{}, api.ErrRange},
		{api.Version{Major: -1}, other, api.Version{}, api.ErrRange},
		{api.Version{Minor: -1}, additive, api.Version{}, api.ErrRange},
		{api.Version{Minor: 10000}, nil, api.Version{}, api.ErrRange},
		{api.Version{Minor: 10000}, other, api.Version{}, api.ErrRange},
		{api.Version{Major: math.MaxInt, Minor: math.MinInt}, other, api.Version{}, api.ErrRange},
		{api.Version{Minor: math.MaxInt}, additive, api.Version{}, api.ErrRange},
	} {
		if got, errno := versions.Next(c.v, c.l); got != c.want || errno != c.errno {
			t.Error(i, got, errno)
		}
	}
}

func TestTextOfOtherChanges(t *testing.T) {
	l := []api.Change{{}, {What: "a b", Range: api.Range{Lo: 0x10FFFF, Hi: 0x41}, Old: "->", New: "\n"}, {Range: api.Range{Lo: -1, Hi: 0x110000}}}
	if got := versions.Text(l); got != " 0000..0000:  -> \na b 10FFFF..0041: -> -> \n\n ..:  -> \n" {
		t.Errorf("%q", got)
	}
	if got := versions.Text(nil); got != "" {
		t.Errorf("%q", got)
	}
}

// stringsOf returns the strings of the values of a code point by the definition, in the order of the files.
func stringsOf(d api.Database, c int) []string {
	var l []string
	for i := range api.PropertyCount {
		l = append(l, property.Name(database.Property(d, i), c))
	}
	class := 0
	for _, s := range d.Norm.Classes {
		if s.Lo <= c && c <= s.Hi {
			class = s.Value
		}
	}
	set := func(s api.Set) string {
		if cpset.Has(s, c) {
			return "yes"
		}
		return "no"
	}
	mappings := func(l []api.Mapping) string {
		var parts []string
		for _, m := range l {
			if m.From == c {
				codes, _ := escape.Codes(m.To)
				parts = append(parts, m.Tag+">"+codes)
			}
		}
		return strings.Join(parts, "|")
	}
	return append(l, strconv.Itoa(class), mappings(d.Norm.Decomp), set(d.Norm.Excluded),
		mappings(d.Case.Lower), mappings(d.Case.Upper), mappings(d.Case.Title), mappings(d.Case.Fold),
		set(d.Case.Cased), set(d.Case.Ignorable), set(d.Ident.Start), set(d.Ident.Continue), set(d.Ident.Medial), mappings(d.Confusable))
}

// naiveCompare returns the changes by the definition, for databases in which all code points from 40 to 10FFF0 have the same values.
func naiveCompare(a, b api.Database) []api.Change {
	all := make([][]api.Change, 20)
	add := func(lo, hi int) {
		old, new := stringsOf(a, lo), stringsOf(b, lo)
		for i := range all {
			last := len(all[i]) - 1
			switch {
			case old[i] == new[i]:
			case last >= 0 && all[i][last].Range.Hi == lo-1 && all[i][last].Old == old[i] && all[i][last].New == new[i]:
				all[i][last].Range.Hi = hi
			default:
				all[i] = append(all[i], api.Change{What: database.Files()[i+1], Range: api.Range{Lo: lo, Hi: hi}, Old: old[i], New: new[i]})
			}
		}
	}
	for c := range 0x40 {
		add(c, c)
	}
	add(0x40, 0x10FFF0)
	for c := 0x10FFF1; c <= 0x10FFFF; c++ {
		add(c, c)
	}
	return slices.Concat(all...)
}

// near returns a code point below 40 or above 10FFF0.
func near(r *rand.Rand) int {
	if r.Intn(4) == 0 {
		return 0x10FFF1 + r.Intn(15)
	}
	return r.Intn(0x40)
}

// randomProperty returns a property of few names, in any order.
func randomProperty(r *rand.Rand) api.Property {
	names := []string{"Other", "A", "B", "no"}
	r.Shuffle(r.Intn(5), func(i, j int) { names[i%4], names[j%4] = names[j%4], names[i%4] })
	for {
		var l []api.Span
		for range r.Intn(4) {
			lo := near(r)
			l = append(l, api.Span{Lo: lo, Hi: min(lo+r.Intn(5), max(lo, 0x3F)), Value: r.Intn(4)})
			if lo > 0x40 {
				l[len(l)-1].Hi = min(lo+r.Intn(5), api.MaxCode)
			}
		}
		if p, errno := property.Make(names, l); errno == api.OK {
			return p
		}
	}
}

// randomMappings returns mappings, some with tags.
func randomMappings(r *rand.Rand) []api.Mapping {
	var l []api.Mapping
	for c := range 0x40 {
		for _, tag := range []string{"", "x", "y"} {
			if r.Intn(20) == 0 {
				l = append(l, api.Mapping{From: c, To: make([]int, r.Intn(2)), Tag: tag})
			}
		}
	}
	return l
}

// randomSet returns a set.
func randomSet(r *rand.Rand) api.Set {
	var l []api.Range
	for range r.Intn(6) {
		c := near(r)
		l = append(l, api.Range{Lo: c, Hi: c})
	}
	return cpset.Make(l)
}

// alter changes some parts of a database at random.
func alter(r *rand.Rand, d *api.Database) {
	for _, p := range []*api.Property{&d.Category, &d.Width, &d.Script, &d.Grapheme, &d.Word, &d.Sentence, &d.Line} {
		if r.Intn(2) == 0 {
			*p = randomProperty(r)
		}
	}
	for _, l := range []*[]api.Mapping{&d.Norm.Decomp, &d.Case.Lower, &d.Case.Upper, &d.Case.Title, &d.Case.Fold, &d.Confusable} {
		if r.Intn(2) == 0 {
			*l = randomMappings(r)
		}
	}
	for _, s := range []*api.Set{&d.Norm.Excluded, &d.Case.Cased, &d.Case.Ignorable, &d.Ident.Start, &d.Ident.Continue, &d.Ident.Medial} {
		if r.Intn(2) == 0 {
			*s = randomSet(r)
		}
	}
	d.Norm.Classes = randomProperty(r).Spans
	d.Version.Minor = r.Intn(9999)
}

// P17.1, P17.3

func TestCompareAgreesWithTheDefinition(t *testing.T) {
	r := rand.New(rand.NewSource(1))
	found := 0
	for range 60 {
		a := database.Empty()
		alter(r, &a)
		b := a
		alter(r, &b)
		l, errno := versions.Compare(a, b)
		if want := naiveCompare(a, b); errno != api.OK || !slices.Equal(l, want) {
			t.Fatalf("%v\n%v\n%v, not\n%v", a, b, l, want)
		}
		found += len(l)
		back := compare(t, b, a)
		for i := range back {
			back[i].Old, back[i].New = back[i].New, back[i].Old
		}
		if !slices.Equal(back, l) {
			t.Fatalf("%v\n%v", l, back)
		}
		if same := compare(t, a, a); len(same) != 0 {
			t.Fatal(same)
		}
	}
	if found < 1000 {
		t.Error(found)
	}
}

// A database without changes is the same but for its version and for how names are numbered.
func TestNoChanges(t *testing.T) {
	a := parse(t, "version", "1.0", "word", "@names Other A B Unused\n0041; A\n0042..0045; B", "lower", "0041; 0061")
	b := parse(t, "version", "2.0", "word", "@names Other Not B Used A\n0041; A\n0042..0045; B", "lower", "0041; 0061")
	if l := compare(t, a, b); len(l) != 0 {
		t.Error(l)
	}
	// The name of the code points that are in no span may be any one.
	c := parse(t, "version", "1.0", "word", "@names A Other B\n0000..0040; Other\n0042..0045; B\n0046..10FFFF; Other", "lower", "0041; 0061")
	if l := compare(t, a, c); len(l) != 0 {
		t.Error(l)
	}
}
