package lines_test

import (
	"math"
	"math/rand"
	"slices"
	"strings"
	"testing"

	"unicodetext/api"
	"unicodetext/lines"
)

var noFault api.Fault

func line(number, lo, hi int, comment string, fields ...string) api.Line {
	return api.Line{Number: number, Lo: lo, Hi: hi, Fields: fields, Comment: comment}
}

func sameLine(a, b api.Line) bool {
	return a.Number == b.Number && a.Lo == b.Lo && a.Hi == b.Hi && slices.Equal(a.Fields, b.Fields) && a.Comment == b.Comment
}

func same(a, b []api.Line) bool {
	return slices.EqualFunc(a, b, sameLine)
}

// P9.1

func TestParse(t *testing.T) {
	for _, c := range []struct {
		s    string
		want []api.Line
	}{
		{"", nil},
		{"\n\n", nil},
		{" \t\r\n# comment\n  # 0041; x\n#", nil},
		{"0041", []api.Line{line(1, 0x41, 0x41, "")}},
		{"0041\n", []api.Line{line(1, 0x41, 0x41, "")}},
		{"0041..005A; Lu # letters", []api.Line{line(1, 0x41, 0x5A, "letters", "Lu")}},
		{"0041 ;; #", []api.Line{line(1, 0x41, 0x41, "", "", "")}},
		{"0041;", []api.Line{line(1, 0x41, 0x41, "", "")}},
		{"0041..0041", []api.Line{line(1, 0x41, 0x41, "")}},
		{"0000..10FFFF;x", []api.Line{line(1, 0, 0x10FFFF, "", "x")}},
		{"D800; surrogate", []api.Line{line(1, 0xD800, 0xD800, "", "surrogate")}},
		{"\r\t 0041 \t\r;\r a b\t; c\t\t;d \r\n", []api.Line{line(1, 0x41, 0x41, "", "a b", "c", "d")}},
		{"0041#0042", []api.Line{line(1, 0x41, 0x41, "0042")}},
		{"0041; a # b ; c # d # ", []api.Line{line(1, 0x41, 0x41, "b ; c # d #", "a")}},
		{"0041 ##", []api.Line{line(1, 0x41, 0x41, "#")}},
		{"0041 #\t\r x \t y \r", []api.Line{line(1, 0x41, 0x41, "x \t y")}},
		{"0041;a..b;=\"\\;\xff\x00\v", []api.Line{line(1, 0x41, 0x41, "", "a..b", "=\"\\", "\xff\x00\v")}},
		{"\n0041;a\n\n# x\n0042;b\n \n0043..0044", []api.Line{line(2, 0x41, 0x41, "", "a"), line(5, 0x42, 0x42, "", "b"), line(7, 0x43, 0x44, "")}},
		{"0042\r\n0041\r\n", []api.Line{line(1, 0x42, 0x42, ""), line(2, 0x41, 0x41, "")}},
		{"0041\n0041", []api.Line{line(1, 0x41, 0x41, ""), line(2, 0x41, 0x41, "")}},
	} {
		if got, fault := lines.Parse(c.s); !same(got, c.want) || fault != noFault {
			t.Errorf("Parse(%q) = %v, %v", c.s, got, fault)
		}
	}
}

func TestParseRejects(t *testing.T) {
	for _, s := range []string{
		"41", "041", "00041", "004a", "110000", "0041..110000", "0042..0041", "0041..", "..0041", "..", "0041 ..0042", "0041.. 0042",
		"0041...0042", "0041.0042", "0041-0042", "0041..0042..0043", "0041 0042", "x", "; x", ";", ";;", ";#", "@names a", "0041,x", "\v0041", "0041\f", "\u00a00041", "-0041", "\x00", "\"0041\"",
	} {
		for _, c := range []struct {
			before, after string
			at            int
		}{{"", "", 1}, {"\n", "\n0041", 2}, {"0041; a\n# x\n", "", 3}, {"", "\n41", 1}, {"\r\n\r\n\r\n", " # x", 4}} {
			if got, fault := lines.Parse(c.before + s + c.after); len(got) != 0 || fault != (api.Fault{Errno: api.ErrSyntax, At: c.at}) {
				t.Errorf("Parse(%q) = %v, %v", c.before+s+c.after, got, fault)
			}
		}
	}
}

func TestParseOfLongStrings(t *testing.T) {
	longest := "0041;" + strings.Repeat("a", api.MaxText-5)
	if got, fault := lines.Parse(longest); len(got) != 1 || len(got[0].Fields[0]) != api.MaxText-5 || fault != noFault {
		t.Error(len(got), fault)
	}
	for _, s := range []string{longest + "a", longest + "\n", "x" + longest, strings.Repeat("\n", api.MaxText+1)} {
		if got, fault := lines.Parse(s); len(got) != 0 || fault != (api.Fault{Errno: api.ErrSize}) {
			t.Error(len(s), len(got), fault)
		}
	}
	if got, fault := lines.Parse(strings.Repeat("\n", api.MaxText-1) + "x"); len(got) != 0 || fault != (api.Fault{Errno: api.ErrSyntax, At: api.MaxText}) {
		t.Error(len(got), fault)
	}
	if got, fault := lines.Parse(strings.Repeat("\n", api.MaxText-4) + "0041"); !same(got, []api.Line{line(api.MaxText-3, 0x41, 0x41, "")}) || fault != noFault {
		t.Error(got, fault)
	}
}

// P9.2

func TestCheckAndTextOfValidLines(t *testing.T) {
	for _, c := range []struct {
		l    api.Line
		want string
	}{
		{api.Line{}, "0000\n"},
		{line(0, 0x41, 0x41, ""), "0041\n"},
		{line(7, 0x41, 0x5A, "letters", "Lu"), "0041..005A; Lu # letters\n"},
		{line(-1, 0x41, 0x41, "", "", ""), "0041; ; \n"},
		{line(0, 0, 0x10FFFF, "", "a b", "", "c"), "0000..10FFFF; a b; ; c\n"},
		{line(0, 0x41, 0x41, "x; y # z #"), "0041 # x; y # z #\n"},
		{line(math.MinInt, 0xD800, 0xDFFF, "#"), "D800..DFFF # #\n"},
		{line(0, 0x41, 0x41, "a\rb\tc", "d\re", "\v\xff\x00"), "0041; d\re; \v\xff\x00 # a\rb\tc\n"},
	} {
		if errno := lines.Check(c.l); errno != api.OK {
			t.Errorf("Check(%v) = %d", c.l, errno)
		}
		if got, errno := lines.Text([]api.Line{c.l}); got != c.want || errno != api.OK {
			t.Errorf("Text(%v) = %q, %d", c.l, got, errno)
		}
	}
	if got, errno := lines.Text(nil); got != "" || errno != api.OK {
		t.Errorf("Text of nothing = %q, %d", got, errno)
	}
	if got, errno := lines.Text([]api.Line{line(9, 0x42, 0x42, "", "b"), line(3, 0x41, 0x41, "", "a")}); got != "0042; b\n0041; a\n" || errno != api.OK {
		t.Errorf("Text of two lines = %q, %d", got, errno)
	}
}

func TestCheckAndTextOfOtherLines(t *testing.T) {
	for _, c := range []struct {
		l    api.Line
		want api.Errno
	}{
		{line(1, -1, 0x41, ""), api.ErrRange},
		{line(1, 0x41, 0x110000, ""), api.ErrRange},
		{line(1, 0x110000, 0x110001, ""), api.ErrRange},
		{line(1, math.MinInt, math.MaxInt, ""), api.ErrRange},
		{line(1, 0x42, 0x41, ""), api.ErrRange},
		{line(1, 0x42, 0x41, " ", "a;b"), api.ErrRange},
		{line(1, 0x41, 0x41, "", "a;b"), api.ErrSyntax},
		{line(1, 0x41, 0x41, "", "a#b"), api.ErrSyntax},
		{line(1, 0x41, 0x41, "", "a\nb"), api.ErrSyntax},
		{line(1, 0x41, 0x41, "", " a"), api.ErrSyntax},
		{line(1, 0x41, 0x41, "", "a "), api.ErrSyntax},
		{line(1, 0x41, 0x41, "", "a\t"), api.ErrSyntax},
		{line(1, 0x41, 0x41, "", "\ra"), api.ErrSyntax},
		{line(1, 0x41, 0x41, "", " "), api.ErrSyntax},
		{line(1, 0x41, 0x41, "", "a", "b", "c "), api.ErrSyntax},
		{line(1, 0x41, 0x41, " a"), api.ErrSyntax},
		{line(1, 0x41, 0x41, "a\r"), api.ErrSyntax},
		{line(1, 0x41, 0x41, "\ta"), api.ErrSyntax},
		{line(1, 0x41, 0x41, "a\nb"), api.ErrSyntax},
		{line(1, 0x41, 0x41, "\n"), api.ErrSyntax},
		{line(1, 0x41, 0x41, "\r"), api.ErrSyntax},
	} {
		if errno := lines.Check(c.l); errno != c.want {
			t.Errorf("Check(%q) = %d", c.l.Fields, errno)
		}
		good, other := line(1, 0x41, 0x41, "", "a"), line(1, 9, 8, "")
		if c.want == api.ErrRange {
			other = line(1, 8, 9, "", " ")
		}
		for _, l := range [][]api.Line{{c.l}, {good, c.l}, {c.l, good}, {good, c.l, other}} {
			if got, errno := lines.Text(l); got != "" || errno != c.want {
				t.Errorf("Text(%v) = %q, %d", l, got, errno)
			}
		}
	}
}

// P9.3

// randomString returns a string without blanks at its ends and without the excluded characters.
func randomString(r *rand.Rand, excluded string) string {
	var out []byte
	for range r.Intn(6) {
		b := []byte(" \t\r;#ab.\n\x00\xff0041")[r.Intn(15)]
		if strings.IndexByte(excluded, b) < 0 {
			out = append(out, b)
		}
	}
	return strings.Trim(string(out), " \t\r")
}

func randomLines(r *rand.Rand) []api.Line {
	var l []api.Line
	for i := range r.Intn(5) {
		lo := r.Intn(api.MaxCode + 1)
		x := line(i+1, lo, lo+r.Intn(api.MaxCode+1-lo), randomString(r, "\n"))
		if r.Intn(2) == 0 {
			x.Hi = x.Lo
		}
		for range r.Intn(4) {
			x.Fields = append(x.Fields, randomString(r, "\n;#"))
		}
		l = append(l, x)
	}
	return l
}

func TestLinesAreReadUnchanged(t *testing.T) {
	r := rand.New(rand.NewSource(1))
	for range 5000 {
		l := randomLines(r)
		s, errno := lines.Text(l)
		if errno != api.OK {
			t.Fatal(l, errno)
		}
		if back, fault := lines.Parse(s); !same(back, l) || fault != noFault {
			t.Fatalf("%q: %v, %v", s, back, fault)
		}
	}
}

// randomSource returns rows of which most can be read.
func randomSource(r *rand.Rand) string {
	var rows []string
	for range 1 + r.Intn(4) {
		row := []string{"", " \t", "0041", " 0041..0043 ; a", "10FFFF;;b #c", "# x", "0041 # y ; # ", "41", ";"}[r.Intn(7+r.Intn(3)/2*2)]
		rows = append(rows, row+[]string{"", "\r", " "}[r.Intn(3)])
	}
	return strings.Join(rows, "\n")
}

func TestParsedLinesAreValidAndCanBeJoined(t *testing.T) {
	r := rand.New(rand.NewSource(2))
	joined := 0
	for range 5000 {
		a, b := randomSource(r), randomSource(r)
		l, fault := lines.Parse(a)
		before := 0
		for _, x := range l {
			if lines.Check(x) != api.OK || x.Number <= before {
				t.Fatalf("%q: %v", a, l)
			}
			before = x.Number
		}
		m, second := lines.Parse(b)
		if fault != noFault || second != noFault {
			continue
		}
		joined++
		for _, x := range m {
			x.Number += strings.Count(a, "\n") + 1
			l = append(l, x)
		}
		if both, fault := lines.Parse(a + "\n" + b); !same(both, l) || fault != noFault {
			t.Fatalf("%q and %q: %v, %v", a, b, both, fault)
		}
	}
	if joined < 500 {
		t.Error("too few strings without a fault:", joined)
	}
}

func TestBlanksAndIgnoredLinesChangeNumbersOnly(t *testing.T) {
	r := rand.New(rand.NewSource(3))
	blanks := func() string { return []string{"", " ", "\t", "\r", " \t\r "}[r.Intn(5)] }
	for range 3000 {
		l := randomLines(r)
		var s strings.Builder
		number := 0
		for i, x := range l {
			for range r.Intn(3) {
				s.WriteString(blanks() + []string{"", "#", "# ; x"}[r.Intn(3)] + "\n")
				number++
			}
			text, _ := lines.Text([]api.Line{{Lo: x.Lo, Hi: x.Hi}})
			s.WriteString(blanks() + strings.TrimSuffix(text, "\n") + blanks())
			for _, f := range x.Fields {
				s.WriteString(";" + blanks() + f + blanks())
			}
			s.WriteString("#" + blanks() + x.Comment + blanks() + "\n")
			number++
			l[i].Number = number
		}
		if got, fault := lines.Parse(s.String()); !same(got, l) || fault != noFault {
			t.Fatalf("%q: %v, %v", s.String(), got, fault)
		}
	}
}

func TestArgumentsStayAndResultsAreNew(t *testing.T) {
	l := []api.Line{line(1, 0x41, 0x41, "x", "a", "b")}
	lines.Text(l)
	lines.Check(l[0])
	if !same(l, []api.Line{line(1, 0x41, 0x41, "x", "a", "b")}) {
		t.Error(l)
	}
	got, _ := lines.Parse("0041;a;b\n0042;c;d")
	_ = append(got[0].Fields, "e")
	got[0].Fields[1] = "f"
	if !slices.Equal(got[1].Fields, []string{"c", "d"}) {
		t.Error(got)
	}
}
