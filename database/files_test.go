package database_test

import (
	"math/rand"
	"reflect"
	"slices"
	"strings"
	"testing"

	"unicodetext/api"
	"unicodetext/database"
)

// fullTexts are the contents of the files of the full database, in order.
var fullTexts = []string{
	"12.345",
	"@names Other Lu\n0041..0046; Lu\n", "@names Other W\n0051..0056; W\n", "@names Other Latn\n0061..0066; Latn\n", "@names Other CR\n000D..0012; CR\n",
	"@names Other Letter\n0071..0076; Letter\n", "@names Other Point\n002E..0033; Point\n", "@names Other Space\n0020..0025; Space\n",
	"0300..0314; 230\n0315; 232\n0316..0319; 220\n",
	"00C5; 0041 030A\nFB01; <compat> 0066 0069\n",
	"0958..095F\n0961\n",
	"03A3; 03C3\n03A3; <final> 03C2\n", "00DF; 0053 0053\n", "00DF; 0053 0073\n", "00DF; 0073 0073\n",
	"0041..005A\n005C\n", "0027\n0029\n", "0041..005B\n005D\n", "0030..0039\n003B\n", "00B7..00B8\n00BA\n",
	"0430; 0061\n0435; \n",
}

// filesOf returns files with these names and contents.
func filesOf(namesAndTexts ...string) []api.File {
	var l []api.File
	for i := 0; i < len(namesAndTexts); i += 2 {
		l = append(l, api.File{Name: namesAndTexts[i], Text: namesAndTexts[i+1]})
	}
	return l
}

// P12.3, Text

func TestText(t *testing.T) {
	d := full()
	l, errno := database.Text(d)
	if errno != api.OK || len(l) != len(allFiles) {
		t.Fatal(len(l), errno)
	}
	for i, f := range l {
		if f.Name != allFiles[i] || f.Text != fullTexts[i] {
			t.Errorf("%q", f)
		}
	}
	if !reflect.DeepEqual(d, full()) {
		t.Error("the database has changed")
	}
}

func TestTextOfEmpty(t *testing.T) {
	l, errno := database.Text(database.Empty())
	if errno != api.OK || len(l) != len(allFiles) {
		t.Fatal(len(l), errno)
	}
	for i, f := range l {
		want := ""
		switch {
		case f.Name == "version":
			want = "0.0"
		case slices.Contains(propertyFiles, f.Name):
			want = "@names Other\n"
		}
		if f.Name != allFiles[i] || f.Text != want {
			t.Errorf("%q", f)
		}
	}
}

func TestTextReturnsTheErrorOfCheck(t *testing.T) {
	for _, one := range damages() {
		d := full()
		one.do(&d)
		if l, errno := database.Text(d); len(l) != 0 || errno != one.errno {
			t.Error(one.file, len(l), errno)
		}
	}
}

// P12.3, Parse

func TestParse(t *testing.T) {
	var l []api.File
	for i, name := range allFiles {
		l = append(l, api.File{Name: name, Text: fullTexts[i]})
	}
	given := slices.Clone(l)
	d, name, fault := database.Parse(l)
	if !database.Equal(d, full()) || name != "" || fault != (api.Fault{}) || !slices.Equal(l, given) {
		t.Error(d, name, fault)
	}
	d, name, fault = database.Parse(nil)
	if !database.Equal(d, database.Empty()) || name != "" || fault != (api.Fault{}) {
		t.Error(d, name, fault)
	}
	for i, name := range allFiles { // what has no file is as in Empty
		d, _, fault := database.Parse(l[i : i+1])
		texts, errno := database.Text(d)
		if fault != (api.Fault{}) || errno != api.OK {
			t.Fatal(name, fault, errno)
		}
		empty, _ := database.Text(database.Empty())
		empty[i] = l[i]
		if !slices.Equal(texts, empty) {
			t.Error(name, texts)
		}
	}
}

// otherTexts are contents that denote the same as the last string of each row, which Text writes.
var otherTexts = [][]string{
	{"version", "1.2\n", "1.2"},
	{"version", "0.9999", "0.9999"},
	{"version", "9999.0", "9999.0"},
	{"version", "0.0\n", "0.0"},
	{"classes", "0300..0314; 230\n", "0300..0314; 230\n"},
	{"classes", "# classes\n0315; 230 # x\n\n0300..0314;230", "0300..0315; 230\n"},
	{"classes", "0316; 1\n0315; 254", "0315; 254\n0316; 1\n"},
	{"classes", "0301; 7\n0300; 7\n0303; 7", "0300..0301; 7\n0303; 7\n"},
	{"classes", "1100..D7A3; 9", "1100..D7A3; 9\n"},
	{"exclusions", "0041..0045\n0043..0050 # overlaps\n0051\n0041", "0041..0051\n"},
	{"start", "0000..10FFFF", "0000..10FFFF\n"},
	{"medial", "\n # nothing\n", ""},
	{"cased", "0062\n0060\n", "0060\n0062\n"},
	{"line", "\n@names A B\n0041; B\n0042; B", "@names A B\n0041..0042; B\n"},
	{"fold", "0041..0042; 0061", "0041; 0061\n0042; 0061\n"},
}

func TestParseReadsOtherWaysOfWriting(t *testing.T) {
	for _, row := range otherTexts {
		d, name, fault := database.Parse(filesOf(row[0], row[1]))
		l, errno := database.Text(d)
		if name != "" || fault != (api.Fault{}) || errno != api.OK || l[slices.Index(allFiles, row[0])].Text != row[2] {
			t.Errorf("%q: %q, %v, %q, %v", row, name, fault, l, errno)
		}
	}
}

// faultyFiles are contents with a fault, for each of the named files.
var faultyFiles = []struct {
	names []string
	text  string
	fault api.Fault
}{
	{[]string{"version"}, "", api.Fault{Errno: api.ErrSyntax, At: 1}},
	{[]string{"version"}, "1", api.Fault{Errno: api.ErrSyntax, At: 1}},
	{[]string{"version"}, "1.", api.Fault{Errno: api.ErrSyntax, At: 1}},
	{[]string{"version"}, ".1", api.Fault{Errno: api.ErrSyntax, At: 1}},
	{[]string{"version"}, "1.2.3", api.Fault{Errno: api.ErrSyntax, At: 1}},
	{[]string{"version"}, "01.2", api.Fault{Errno: api.ErrSyntax, At: 1}},
	{[]string{"version"}, "1.00", api.Fault{Errno: api.ErrSyntax, At: 1}},
	{[]string{"version"}, "+1.2", api.Fault{Errno: api.ErrSyntax, At: 1}},
	{[]string{"version"}, "-1.2", api.Fault{Errno: api.ErrSyntax, At: 1}},
	{[]string{"version"}, "1.-0", api.Fault{Errno: api.ErrSyntax, At: 1}},
	{[]string{"version"}, "10000.0", api.Fault{Errno: api.ErrSyntax, At: 1}},
	{[]string{"version"}, "0.10000", api.Fault{Errno: api.ErrSyntax, At: 1}},
	{[]string{"version"}, "99999999999999999999.0", api.Fault{Errno: api.ErrSyntax, At: 1}},
	{[]string{"version"}, "1.2\n\n", api.Fault{Errno: api.ErrSyntax, At: 1}},
	{[]string{"version"}, "\n1.2", api.Fault{Errno: api.ErrSyntax, At: 1}},
	{[]string{"version"}, "1.2 ", api.Fault{Errno: api.ErrSyntax, At: 1}},
	{[]string{"version"}, "1.2\r\n", api.Fault{Errno: api.ErrSyntax, At: 1}},
	{[]string{"version"}, "1\n.2", api.Fault{Errno: api.ErrSyntax, At: 1}},
	{[]string{"version"}, strings.Repeat("1", 70000), api.Fault{Errno: api.ErrSyntax, At: 1}},
	{propertyFiles, "", api.Fault{Errno: api.ErrSyntax, At: 1}},
	{propertyFiles, "\n0041; Lu", api.Fault{Errno: api.ErrSyntax, At: 2}},
	{propertyFiles, "@names A A", api.Fault{Errno: api.ErrName, At: 1}},
	{propertyFiles, "@names A B\n\n0041; C\n0042", api.Fault{Errno: api.ErrSyntax, At: 4}},
	{propertyFiles, "@names A B\n\n0041; C\n0042; B", api.Fault{Errno: api.ErrName, At: 3}},
	{propertyFiles, "@names A B\n0041; A\n0041; B", api.Fault{Errno: api.ErrTwice, At: 3}},
	{propertyFiles, strings.Repeat("\n", 65537), api.Fault{Errno: api.ErrSize}},
	{mappingFiles, "41; 0061", api.Fault{Errno: api.ErrSyntax, At: 1}},
	{mappingFiles, "0041; 0061\n0041..0042; 0062", api.Fault{Errno: api.ErrTwice, At: 2}},
	{mappingFiles, "\n0041", api.Fault{Errno: api.ErrSyntax, At: 2}},
	{mappingFiles, "0000..0400; 0041", api.Fault{Errno: api.ErrSize, At: 1}},
	{mappingFiles, strings.Repeat("#", 65537), api.Fault{Errno: api.ErrSize}},
	{setFiles, "0041\n0042; x\n0043;", api.Fault{Errno: api.ErrSyntax, At: 2}},
	{setFiles, "0041;\n0042..0041", api.Fault{Errno: api.ErrSyntax, At: 2}},
	{setFiles, "0041\n\n41\n0042;", api.Fault{Errno: api.ErrSyntax, At: 3}},
	{setFiles, strings.Repeat(" ", 65537), api.Fault{Errno: api.ErrSize}},
	{[]string{"classes"}, "0041", api.Fault{Errno: api.ErrSyntax, At: 1}},
	{[]string{"classes"}, "0041; 1\n0042; 2; 3", api.Fault{Errno: api.ErrSyntax, At: 2}},
	{[]string{"classes"}, "0041; 0", api.Fault{Errno: api.ErrSyntax, At: 1}},
	{[]string{"classes"}, "0041; 255", api.Fault{Errno: api.ErrSyntax, At: 1}},
	{[]string{"classes"}, "0041; 01", api.Fault{Errno: api.ErrSyntax, At: 1}},
	{[]string{"classes"}, "0041; +1", api.Fault{Errno: api.ErrSyntax, At: 1}},
	{[]string{"classes"}, "0041; -1", api.Fault{Errno: api.ErrSyntax, At: 1}},
	{[]string{"classes"}, "0041; 1 2", api.Fault{Errno: api.ErrSyntax, At: 1}},
	{[]string{"classes"}, "0041; ", api.Fault{Errno: api.ErrSyntax, At: 1}},
	{[]string{"classes"}, "0041; x", api.Fault{Errno: api.ErrSyntax, At: 1}},
	{[]string{"classes"}, "0041; 18446744073709551617", api.Fault{Errno: api.ErrSyntax, At: 1}},
	{[]string{"classes"}, "0041; 0\n41; 1", api.Fault{Errno: api.ErrSyntax, At: 2}},
	{[]string{"classes"}, "0041; 1\n\n0041; 1\n0041; 1", api.Fault{Errno: api.ErrTwice, At: 3}},
	{[]string{"classes"}, "0041..0050; 1\n0051; 2\n0045; 3", api.Fault{Errno: api.ErrTwice, At: 3}},
	{[]string{"classes"}, "0045; 1\n0041; 2\n0030..0050; 3", api.Fault{Errno: api.ErrTwice, At: 3}},
	{[]string{"classes"}, "0041; 1\n0041; 1\n0042; 0", api.Fault{Errno: api.ErrSyntax, At: 3}},
	{[]string{"classes"}, strings.Repeat("\n", 65537), api.Fault{Errno: api.ErrSize}},
}

// checkFaulty checks that Parse returns a fault of a file, and nothing else.
func checkFaulty(t *testing.T, l []api.File, name string, fault api.Fault) {
	t.Helper()
	d, gotName, gotFault := database.Parse(l)
	if !database.Equal(d, api.Database{}) || gotName != name || gotFault != fault {
		t.Errorf("%.80q: %q, %v, not %q, %v", l, gotName, gotFault, name, fault)
	}
}

func TestFaultsOfContents(t *testing.T) {
	for _, c := range faultyFiles {
		for _, name := range c.names {
			checkFaulty(t, filesOf(name, c.text), name, c.fault)
		}
	}
}

func TestTheFirstFaultIsInTheOrderOfTheFiles(t *testing.T) {
	faulty := map[string]api.Fault{}
	for _, name := range allFiles {
		faulty[name] = api.Fault{Errno: api.ErrSyntax, At: 1}
	}
	for i, first := range allFiles {
		for _, second := range allFiles[i+1:] {
			checkFaulty(t, filesOf(second, "?", first, "?"), first, faulty[first])
			checkFaulty(t, filesOf(first, "?", second, "?"), first, faulty[first])
		}
	}
}

func TestFaultsOfNames(t *testing.T) {
	unknown, twice := api.Fault{Errno: api.ErrName}, api.Fault{Errno: api.ErrTwice}
	checkFaulty(t, filesOf("line", "@names A", "line", "@names A"), "line", twice)
	checkFaulty(t, filesOf("lines", "", "line", "@names A", "line", "@names A"), "lines", unknown)
	checkFaulty(t, filesOf("line", "@names A", "line", "@names A", "lines", ""), "lines", unknown)
	checkFaulty(t, filesOf("version", "?", "", "x"), "", unknown)
	checkFaulty(t, filesOf("Line", "", "x", ""), "Line", unknown)
	checkFaulty(t, filesOf("medial", "", "cased", "", "cased", "", "medial", ""), "cased", twice)
	checkFaulty(t, filesOf("version", "?", "cased", "", "cased", "?"), "cased", twice)
	checkFaulty(t, filesOf("cased", "", "cased ", ""), "cased ", unknown)
}

// P12.4

// randomDatabase returns a valid database.
func randomDatabase(r *rand.Rand) api.Database {
	d := database.Empty()
	d.Version = api.Version{Major: r.Intn(10000), Minor: r.Intn(10000)}
	spans := func(values int) []api.Span {
		var l []api.Span
		for c := r.Intn(9); c < 60; c += 1 + r.Intn(9) {
			s := api.Span{Lo: c, Hi: c + r.Intn(5), Value: 1 + r.Intn(values)}
			if len(l) == 0 || l[len(l)-1].Hi+1 < s.Lo || l[len(l)-1].Hi+1 == s.Lo && l[len(l)-1].Value != s.Value {
				l = append(l, s)
			}
		}
		return l
	}
	for i := range api.PropertyCount {
		*propertyAt(&d, i) = api.Property{Names: []string{"Zero", "one", "Two_2"}, Spans: spans(2)}
	}
	d.Norm.Classes = spans(254)
	for i := range api.SetCount {
		for _, s := range spans(1) {
			setAt(&d, i).Ranges = append(setAt(&d, i).Ranges, api.Range{Lo: s.Lo, Hi: s.Hi})
		}
	}
	for i := range mappingFiles {
		for c := r.Intn(9); c < 60; c += 1 + r.Intn(9) {
			*mappingsAt(&d, i) = append(*mappingsAt(&d, i), api.Mapping{From: c, To: r.Perm(r.Intn(4)), Tag: []string{"", "final"}[r.Intn(2)]})
		}
	}
	return d
}

func TestParseOfTextIsTheDatabase(t *testing.T) {
	r := rand.New(rand.NewSource(1))
	for range 500 {
		d := randomDatabase(r)
		l, errno := database.Text(d)
		if errno != api.OK {
			t.Fatal(d, errno)
		}
		r.Shuffle(len(l), func(i, j int) { l[i], l[j] = l[j], l[i] })
		if got, name, fault := database.Parse(l); !database.Equal(got, d) || name != "" || fault != (api.Fault{}) {
			t.Fatal(d, got, name, fault)
		}
	}
}

// damagedTexts returns files in which some characters are changed.
func damagedTexts(r *rand.Rand, l []api.File) []api.File {
	for range 1 + r.Intn(3) {
		f := &l[r.Intn(len(l))]
		at := r.Intn(len(f.Text) + 1)
		f.Text = f.Text[:at] + []string{"", "\n", "0", "1", ";", " ", "0041\n"}[r.Intn(7)] + f.Text[min(at+r.Intn(2), len(f.Text)):]
	}
	return l
}

func TestWhatIsParsedIsValid(t *testing.T) {
	r := rand.New(rand.NewSource(2))
	parsed, faults := 0, 0
	for range 3000 {
		l, _ := database.Text(randomDatabase(r))
		d, name, fault := database.Parse(damagedTexts(r, l))
		if fault.Errno != api.OK {
			faults++
			if name == "" || !database.Equal(d, api.Database{}) {
				t.Fatal(d, name, fault)
			}
			continue
		}
		parsed++
		if errno := database.Check(d); errno != api.OK || name != "" {
			t.Fatal(d, name, errno)
		}
	}
	if parsed < 100 || faults < 100 {
		t.Error(parsed, faults)
	}
}
