package escape_test

import (
	"fmt"
	"math"
	"math/rand"
	"regexp"
	"slices"
	"strconv"
	"strings"
	"testing"

	"unicodetext/api"
	"unicodetext/escape"
)

var noFault api.Fault

func ints(s string) []int {
	var l []int
	for _, c := range s {
		l = append(l, int(c))
	}
	return l
}

// notCodePoints holds numbers that no notation has.
var notCodePoints = []int{-1, 0x110000, math.MinInt, math.MaxInt, 1 << 32, 1<<32 + 0x41}

// P5.1

func TestText(t *testing.T) {
	for _, c := range []struct {
		text []int
		want string
	}{
		{nil, `""`},
		{[]int{0x41, 0x22, 0x301}, `"A\"\u{301}"`},
		{ints(`a\b"c`), `"a\\b\"c"`},
		{ints(" ~"), `" ~"`},
		{[]int{0}, `"\u{0}"`},
		{[]int{0x1F, 0x20, 0x7E, 0x7F}, `"\u{1F} ~\u{7F}"`},
		{[]int{0xA, 0xD, 0x9}, `"\u{A}\u{D}\u{9}"`},
		{[]int{0xE9, 0x100, 0xFFF}, `"\u{E9}\u{100}\u{FFF}"`},
		{[]int{0xD800, 0xDFFF, 0xFFFF}, `"\u{D800}\u{DFFF}\u{FFFF}"`},
		{[]int{0x10000, 0xABCDE, 0x10FFFF}, `"\u{10000}\u{ABCDE}\u{10FFFF}"`},
		{ints("'{}/"), `"'{}/"`},
		{ints(`\u{41}`), `"\\u{41}"`},
	} {
		if got, errno := escape.Text(c.text); got != c.want || errno != api.OK {
			t.Errorf("Text(%X) = %s, %d", c.text, got, errno)
		}
		if back, fault := escape.Parse(c.want); !slices.Equal(back, c.text) || fault != noFault {
			t.Errorf("Parse(%s) = %X, %v", c.want, back, fault)
		}
	}
}

func TestTextOfAllCodePoints(t *testing.T) {
	for c := range api.MaxCode + 1 {
		want := fmt.Sprintf(`"\u{%X}"`, c)
		switch {
		case c == '"' || c == '\\':
			want = `"\` + string(rune(c)) + `"`
		case 0x20 <= c && c <= 0x7E:
			want = `"` + string(rune(c)) + `"`
		}
		if got, errno := escape.Text([]int{c}); got != want || errno != api.OK {
			t.Fatalf("Text(%X) = %s, %d", c, got, errno)
		}
		if back, fault := escape.Parse(want); !slices.Equal(back, []int{c}) || fault != noFault {
			t.Fatalf("Parse(%s) = %X, %v", want, back, fault)
		}
	}
}

func TestTextAndCodesRejectOtherNumbers(t *testing.T) {
	for _, c := range notCodePoints {
		for _, text := range [][]int{{c}, {0x41, c}, {c, 0x41}, {0x41, c, c, 0x42}} {
			if got, errno := escape.Text(text); got != "" || errno != api.ErrRange {
				t.Errorf("Text(%d) = %s, %d", text, got, errno)
			}
			if got, errno := escape.Codes(text); got != "" || errno != api.ErrRange {
				t.Errorf("Codes(%d) = %s, %d", text, got, errno)
			}
		}
	}
}

// P5.2

func TestParse(t *testing.T) {
	for _, c := range []struct {
		s    string
		want []int
	}{
		{`""`, nil},
		{`"a b~"`, ints("a b~")},
		{`"\"\\"`, ints(`"\`)},
		{`"\u{0}\u{00}\u{000000}"`, []int{0, 0, 0}},
		{`"\u{41}\u{041}\u{000041}"`, []int{0x41, 0x41, 0x41}},
		{`"\u{aB}\u{Ff}"`, []int{0xAB, 0xFF}},
		{`"\u{10FFFF}\u{10ffff}\u{d800}"`, []int{0x10FFFF, 0x10FFFF, 0xD800}},
		{`"\u{22}\u{5C}"`, ints(`"\`)},
		{`"\\u{41}"`, ints(`\u{41}`)},
		{`"}{"`, ints("}{")},
		{`"u{41}"`, ints("u{41}")},
	} {
		if got, fault := escape.Parse(c.s); !slices.Equal(got, c.want) || fault != noFault {
			t.Errorf("Parse(%s) = %X, %v", c.s, got, fault)
		}
	}
}

func TestFaultsOfParse(t *testing.T) {
	for _, c := range []struct {
		s  string
		at int
	}{
		{"", 0},
		{"a", 0},
		{`\`, 0},
		{" \"\"", 0},
		{`"`, 1},
		{`"a`, 2},
		{`"a"b`, 3},
		{`"a""`, 3},
		{`"" `, 2},
		{`""""`, 2},
		{`"\`, 2},
		{`"\"`, 3},
		{`"\\`, 3},
		{`"\u`, 3},
		{`"\u{`, 4},
		{`"\u{1`, 5},
		{`"\u{12`, 6},
		{`"\u{12345`, 9},
		{`"\u{10FFFF`, 10},
		{`"\u{00110`, 9},
		{`"\u{001100`, 10},
		{`"\u{41}`, 7},
		{`"\u{110000}"`, 1},
		{`"\u{110000`, 1},
		{`"\u{FFFFFF}"`, 1},
		{`"\u{0000000}"`, 1},
		{`"\u{0000000`, 1},
		{`"\u{1234567`, 1},
		{`"\u{}"`, 1},
		{`"\u{g}"`, 1},
		{`"\u{1g}"`, 1},
		{`"\u{1 }"`, 1},
		{`"\u{12"`, 1},
		{`"\u{12\`, 1},
		{`"\u41"`, 1},
		{`"\u"`, 1},
		{`"\U{41}"`, 1},
		{`"\n"`, 1},
		{`"\q`, 1},
		{`"\ "`, 1},
		{`"\x41"`, 1},
		{`"ab\q"`, 3},
		{`"ab\"\q"`, 5},
		{`"\\\q"`, 3},
		{"\"\n\"", 1},
		{"\"a\t\"", 2},
		{"\"a\x7f\"", 2},
		{"\"\u00e9\"", 1},
		{"\"a\x00\"", 2},
		{"\"\xff\"", 1},
		{"\"\\\n\"", 1},
		{"\"a\"\n", 3},
		{"\"a\"\xff", 3},
	} {
		if got, fault := escape.Parse(c.s); len(got) != 0 || fault != (api.Fault{Errno: api.ErrSyntax, At: c.at}) {
			t.Errorf("Parse(%q) = %X, %v, not at %d", c.s, got, fault, c.at)
		}
	}
}

func TestParseOfLongStrings(t *testing.T) {
	longest := `"` + strings.Repeat("a", api.MaxText-2) + `"`
	if got, fault := escape.Parse(longest); len(got) != api.MaxText-2 || fault != noFault {
		t.Error(len(got), fault)
	}
	for _, s := range []string{longest + `"`, `"` + longest, strings.Repeat("\n", api.MaxText+1), longest[1:] + "  "} {
		if got, fault := escape.Parse(s); len(got) != 0 || fault != (api.Fault{Errno: api.ErrSize}) {
			t.Error(len(s), len(got), fault)
		}
	}
	for _, s := range []string{longest[:api.MaxText-1] + "a", longest[:api.MaxText-1]} {
		if got, fault := escape.Parse(s); len(got) != 0 || fault != (api.Fault{Errno: api.ErrSyntax, At: len(s)}) {
			t.Error(len(s), len(got), fault)
		}
	}
}

var (
	literalForm = regexp.MustCompile(`^"([ !#-\[\]-~]|\\["\\]|\\u\{[0-9A-Fa-f]{1,6}\})*"$`)
	codeForm    = regexp.MustCompile(`\\(?:["\\]|u\{([0-9A-Fa-f]*)\})`)
)

// isLiteral says by the definition whether s is a literal.
func isLiteral(s string) bool {
	if !literalForm.MatchString(s) {
		return false
	}
	for _, m := range codeForm.FindAllStringSubmatch(s, -1) {
		if c, _ := strconv.ParseInt("0"+m[1], 16, 64); c > api.MaxCode {
			return false
		}
	}
	return true
}

// isBeginning says whether s is the beginning of a literal: these are enough ways to complete it.
func isBeginning(s string) bool {
	for _, more := range []string{"", `"`, `""`, `{0}"`, `0}"`, `}"`} {
		if isLiteral(s + more) {
			return true
		}
	}
	return false
}

// expected returns the position of the fault that the definition requires in a string that is no literal.
func expected(s string) int {
	if isBeginning(s) {
		return len(s)
	}
	i := 0
	for isBeginning(s[:i+1]) {
		i++
	}
	if i == 0 || isLiteral(s[:i]) || isLiteral(s[:i]+`"`) {
		return i
	}
	for i--; !isLiteral(s[:i] + `"`); {
		i--
	}
	return i
}

func checkParse(t *testing.T, s string) {
	t.Helper()
	got, fault := escape.Parse(s)
	if isLiteral(s) {
		if fault != noFault {
			t.Fatalf("Parse(%q) = %X, %v", s, got, fault)
		}
		return
	}
	if at := expected(s); len(got) != 0 || fault != (api.Fault{Errno: api.ErrSyntax, At: at}) {
		t.Fatalf("Parse(%q) = %X, %v, not at %d", s, got, fault, at)
	}
}

func TestParseTriesEveryString(t *testing.T) {
	try(t, "", []string{`"`, `\`, "u", "{", "}", "1", "q", "\x1f"}, 4)
	try(t, `"`, []string{`"`, `\`, `\u{`, "}", "F", "\x7f"}, 5)
	try(t, `"a\u{`, []string{"0", "1", "f", "}", `"`}, 6)
	try(t, `"\u{10FFF`, []string{"0", "F", "g", "}", `"`, `\`}, 4)
	try(t, `"\u{11000`, []string{"0", "F", "}", `"`}, 4)
}

// try checks all strings of a beginning and at most most pieces.
func try(t *testing.T, s string, pieces []string, most int) {
	t.Helper()
	checkParse(t, s)
	if most == 0 {
		return
	}
	for _, p := range pieces {
		try(t, s+p, pieces, most-1)
	}
}

func TestParseTriesEveryByte(t *testing.T) {
	for b := range 256 {
		for _, s := range []string{`"?"`, `"\?"`, `"\u?"`, `"\u{?}"`, `"\u{1?}"`, `"\u{10FFF?}"`, `"\u{1?`, `"a"?`, `?"a"`} {
			checkParse(t, strings.Replace(s, "?", string([]byte{byte(b)}), 1))
		}
	}
}

// P5.3

func TestCodesAndParseCodes(t *testing.T) {
	for _, c := range []struct {
		text []int
		want string
	}{
		{nil, ""},
		{[]int{0}, "0000"},
		{[]int{0x41, 0x30A}, "0041 030A"},
		{[]int{0xD800, 0xFFFF, 0x10000, 0x10FFFF}, "D800 FFFF 10000 10FFFF"},
		{[]int{0x41, 0x41}, "0041 0041"},
	} {
		if got, errno := escape.Codes(c.text); got != c.want || errno != api.OK {
			t.Errorf("Codes(%X) = %q, %d", c.text, got, errno)
		}
		if got, errno := escape.ParseCodes(c.want); !slices.Equal(got, c.text) || errno != api.OK {
			t.Errorf("ParseCodes(%q) = %X, %d", c.want, got, errno)
		}
	}
}

func TestParseCodesRejects(t *testing.T) {
	for _, s := range []string{
		" ", "41", "041", "00041", "004a", "110000", "0041 ", " 0041", "0041  0042", "0041\t0042", "0041\n", "0041,0042",
		"0041 41", "0041 0042 x", "0041..0042", "00410042", "-0041", "0041 -1", "\x00", "\xff", "0041 110000",
	} {
		if got, errno := escape.ParseCodes(s); len(got) != 0 || errno != api.ErrSyntax {
			t.Errorf("ParseCodes(%q) = %X, %d", s, got, errno)
		}
	}
}

func TestCodesHaveNoLimit(t *testing.T) {
	text := make([]int, 50000)
	for i := range text {
		text[i] = i * 20
	}
	s, errno := escape.Codes(text)
	if errno != api.OK {
		t.Fatal(errno)
	}
	if back, errno := escape.ParseCodes(s); !slices.Equal(back, text) || errno != api.OK {
		t.Error(len(back), errno)
	}
}

// P5.4

func randomText(r *rand.Rand) []int {
	text := make([]int, r.Intn(12))
	for i := range text {
		text[i] = []int{r.Intn(0x80), r.Intn(0x80), '"', '\\', 'u', '{', '}', r.Intn(0x10000), r.Intn(api.MaxCode + 1)}[r.Intn(9)]
	}
	return text
}

func TestTextsAreReadUnchanged(t *testing.T) {
	r := rand.New(rand.NewSource(1))
	for range 5000 {
		a, b := randomText(r), randomText(r)
		s, errno := escape.Text(a)
		u, _ := escape.Text(b)
		both, _ := escape.Text(slices.Concat(a, b))
		if errno != api.OK || both != s[:len(s)-1]+u[1:] {
			t.Fatalf("%X %X: %s", a, b, both)
		}
		if i := strings.IndexFunc(s, func(c rune) bool { return c < 0x20 || c > 0x7E }); i >= 0 {
			t.Fatalf("%X: %q", a, s)
		}
		if back, fault := escape.Parse(s); !slices.Equal(back, a) || fault != noFault {
			t.Fatalf("%X: %X, %v", a, back, fault)
		}
		codes, errno := escape.Codes(a)
		if back, e := escape.ParseCodes(codes); errno != api.OK || !slices.Equal(back, a) || e != api.OK {
			t.Fatalf("%X: %X, %v", a, back, e)
		}
	}
}

func TestWhatPrecedesAFaultIsABeginning(t *testing.T) {
	r := rand.New(rand.NewSource(2))
	for range 5000 {
		s, _ := escape.Text(randomText(r))
		damaged := []byte(s)
		damaged[r.Intn(len(damaged))] = byte(r.Intn(256))
		s = string(damaged[:r.Intn(len(damaged)+1)])
		checkParse(t, s)
		if _, fault := escape.Parse(s); fault != noFault && !isBeginning(s[:fault.At]) {
			t.Fatalf("%q: %v", s, fault)
		}
	}
}

func TestArgumentsStay(t *testing.T) {
	text := ints(`a"b`)
	escape.Text(text)
	escape.Codes(text)
	if !slices.Equal(text, ints(`a"b`)) {
		t.Error(text)
	}
}
