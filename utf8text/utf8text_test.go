package utf8text_test

import (
	"math"
	"math/rand"
	"slices"
	"strings"
	"testing"
	"unicode/utf8"

	"unicodetext/api"
	"unicodetext/codepoint"
	"unicodetext/utf8text"
)

var policies = []int{api.Fail, api.Replace, api.Skip, api.Escape}

var unknownPolicies = []int{0, -1, 5, math.MinInt, math.MaxInt}

// notScalar holds numbers that have no form.
var notScalar = []int{-1, math.MinInt, 0xD800, 0xDBFF, 0xDC00, 0xDFFF, 0x110000, 0x1D800, 1 << 32, math.MaxInt}

func ints(s string) []int {
	var l []int
	for _, c := range s {
		l = append(l, int(c))
	}
	return l
}

// P3.1

func TestLength(t *testing.T) {
	for _, c := range []struct{ c, want int }{
		{0, 1}, {0x41, 1}, {0x7F, 1},
		{0x80, 2}, {0x7FF, 2},
		{0x800, 3}, {0xD7FF, 3}, {0xE000, 3}, {0xFFFD, 3}, {0xFFFF, 3},
		{0x10000, 4}, {0x1D800, 4}, {0x10FFFF, 4},
		{0xD800, 0}, {0xDBFF, 0}, {0xDC00, 0}, {0xDFFF, 0},
		{-1, 0}, {0x110000, 0}, {math.MinInt, 0}, {math.MaxInt, 0}, {1 << 32, 0}, {1<<32 + 0x41, 0},
	} {
		if got := utf8text.Length(c.c); got != c.want {
			t.Errorf("Length(%X) = %d", c.c, got)
		}
	}
}

func TestFormsOfAllScalarValues(t *testing.T) {
	for c := range api.MaxCode + 1 {
		if 0xD800 <= c && c <= 0xDFFF {
			if utf8text.Length(c) != 0 {
				t.Fatalf("Length(%X) = %d", c, utf8text.Length(c))
			}
			continue
		}
		want := string(rune(c))
		got, fault := utf8text.Encode([]int{c}, api.Fail)
		if got != want || fault != (api.Fault{}) || utf8text.Length(c) != len(want) {
			t.Fatalf("Encode(%X) = %X, %v; Length %d", c, got, fault, utf8text.Length(c))
		}
		if back, n, ok := utf8text.Step(want); back != c || n != len(want) || !ok {
			t.Fatalf("Step(%X) = %X, %d, %t", want, back, n, ok)
		}
	}
}

func TestEncode(t *testing.T) {
	for _, c := range []struct {
		text                  []int
		at                    int // of the fault
		replace, skip, escape string
	}{
		{[]int{0xD800}, 0, "\uFFFD", "", `\u{D800}`},
		{[]int{-1}, 0, "\uFFFD", "", `\u{}`},
		{[]int{0x110000}, 0, "\uFFFD", "", `\u{}`},
		{[]int{math.MinInt, math.MaxInt}, 0, "\uFFFD\uFFFD", "", `\u{}\u{}`},
		{[]int{0x41, 0xDFFF, 0xE9}, 1, "A\uFFFD\u00E9", "A\u00E9", "A\\u{DFFF}\u00E9"},
		{[]int{0x41, 0x42, -7, 0xDC00}, 2, "AB\uFFFD\uFFFD", "AB", `AB\u{}\u{DC00}`},
		{[]int{0xD83D, 0xDE00}, 0, "\uFFFD\uFFFD", "", `\u{D83D}\u{DE00}`},
		{[]int{0xFFFE, 0x10FFFF, 1 << 32}, 2, "\uFFFE\U0010FFFF\uFFFD", "\uFFFE\U0010FFFF", "\uFFFE\U0010FFFF\\u{}"},
	} {
		for policy, want := range map[int]string{api.Replace: c.replace, api.Skip: c.skip, api.Escape: c.escape} {
			if got, fault := utf8text.Encode(c.text, policy); got != want || fault != (api.Fault{}) {
				t.Errorf("Encode(%X, %d) = %q, %v", c.text, policy, got, fault)
			}
		}
		if got, fault := utf8text.Encode(c.text, api.Fail); got != "" || fault != (api.Fault{Errno: api.ErrEncoding, At: c.at}) {
			t.Errorf("Encode(%X, Fail) = %q, %v", c.text, got, fault)
		}
	}
}

func TestPoliciesAgreeOnWellFormedTexts(t *testing.T) {
	for _, s := range []string{"", "\x00", "a", "\x7f\u0080\u07ff\u0800\ud7ff\ue000\uffff\U00010000\U0010ffff", "\ufeffx", `\u{41}\x41`, "\uFFFD"} {
		for _, policy := range policies {
			if got, fault := utf8text.Encode(ints(s), policy); got != s || fault != (api.Fault{}) {
				t.Errorf("Encode(%q, %d) = %q, %v", s, policy, got, fault)
			}
			if got, fault := utf8text.Decode(s, policy); !slices.Equal(got, ints(s)) || fault != (api.Fault{}) {
				t.Errorf("Decode(%q, %d) = %X, %v", s, policy, got, fault)
			}
		}
		if !utf8text.Valid(s) {
			t.Errorf("%q is not valid", s)
		}
	}
}

func TestUnknownPolicies(t *testing.T) {
	for _, policy := range unknownPolicies {
		for _, text := range [][]int{nil, {0x41}, {0x41, -1}} {
			if got, fault := utf8text.Encode(text, policy); got != "" || fault != (api.Fault{Errno: api.ErrKind}) {
				t.Errorf("Encode(%X, %d) = %q, %v", text, policy, got, fault)
			}
		}
		for _, s := range []string{"", "a", "a\xff"} {
			if got, fault := utf8text.Decode(s, policy); len(got) != 0 || fault != (api.Fault{Errno: api.ErrKind}) {
				t.Errorf("Decode(%q, %d) = %X, %v", s, policy, got, fault)
			}
		}
	}
}

// P3.2

func TestStep(t *testing.T) {
	for _, c := range []struct {
		s    string
		c, n int
		ok   bool
	}{
		{"", 0, 0, false},
		{"\x00", 0, 1, true},
		{"A\xff", 0x41, 1, true},
		{"\u00e9x", 0xE9, 2, true},
		{"\xed\xa0\x80", 0, 1, false},
		{"\xf0\x80\x80A", 0, 1, false},
		{"\xe2\x82A", 0, 2, false},
		{"\xe2\x82", 0, 2, false},
		{"\xe2", 0, 1, false},
		{"\xe2A", 0, 1, false},
		{"\x80", 0, 1, false},
		{"\xbf\xbf", 0, 1, false},
		{"\xc0\x80", 0, 1, false},
		{"\xc1\xbf", 0, 1, false},
		{"\xe0\x9f\xbf", 0, 1, false},
		{"\xe0\xa0", 0, 2, false},
		{"\xf0\x90\x80", 0, 3, false},
		{"\xf0\x90\x80\xc0", 0, 3, false},
		{"\xf0\x8f\xbf\xbf", 0, 1, false},
		{"\xf4\x8f\xbf\xbf", 0x10FFFF, 4, true},
		{"\xf4\x90\x80\x80", 0, 1, false},
		{"\xf5\x80\x80\x80", 0, 1, false},
		{"\xff", 0, 1, false},
		{"\xfe\xff", 0, 1, false},
	} {
		if got, n, ok := utf8text.Step(c.s); got != c.c || n != c.n || ok != c.ok {
			t.Errorf("Step(%X) = %X, %d, %t", c.s, got, n, ok)
		}
	}
}

// beginnings returns the proper beginnings of all forms.
func beginnings() map[string]bool {
	found := map[string]bool{}
	for c := rune(0); c <= utf8.MaxRune; c++ {
		if !utf8.ValidRune(c) {
			continue
		}
		form := string(c)
		for n := 1; n < len(form); n++ {
			if !found[form[:n]] {
				found[form[:n]] = true
			}
		}
	}
	return found
}

func TestStepTakesTheLongestBeginning(t *testing.T) {
	begins := beginnings()
	bytes := []byte{0x00, 0x41, 0x7F, 0x80, 0x8F, 0x90, 0x9F, 0xA0, 0xBF, 0xC0, 0xC2, 0xE0, 0xED, 0xF0, 0xF4, 0xFF}
	check := func(s string) {
		t.Helper()
		c, size := utf8.DecodeRuneInString(s)
		want, n, ok := int(c), size, c != utf8.RuneError || size == 3
		if !ok {
			want, n = 0, 1
			for n < len(s) && begins[s[:n+1]] {
				n++
			}
		}
		if got, m, is := utf8text.Step(s); got != want || m != n || is != ok {
			t.Fatalf("Step(%X) = %X, %d, %t, not %X, %d, %t", s, got, m, is, want, n, ok)
		}
	}
	for a := range 256 {
		check(string([]byte{byte(a)}))
		for b := range 256 {
			check(string([]byte{byte(a), byte(b)}))
			if a < 0xC0 { // these begin no longer form
				continue
			}
			for _, c := range bytes {
				check(string([]byte{byte(a), byte(b), c}))
				for _, d := range bytes {
					check(string([]byte{byte(a), byte(b), c, d}))
				}
			}
		}
	}
}

func TestDecode(t *testing.T) {
	for _, c := range []struct {
		s             string
		at            int // of the fault
		replace, skip []int
		escape        string
	}{
		{"\xf0\x80\x80A", 0, []int{0xFFFD, 0xFFFD, 0xFFFD, 0x41}, []int{0x41}, `\xF0\x80\x80A`},
		{"\xe2\x82A", 0, []int{0xFFFD, 0x41}, []int{0x41}, `\xE2\x82A`},
		{"\xed\xa0\x80", 0, []int{0xFFFD, 0xFFFD, 0xFFFD}, nil, `\xED\xA0\x80`},
		{"a\xc3", 1, []int{0x61, 0xFFFD}, []int{0x61}, `a\xC3`},
		{"\u00e9\xf4\x8f\xbf\u00e9", 2, []int{0xE9, 0xFFFD, 0xE9}, []int{0xE9, 0xE9}, "\u00e9\\xF4\\x8F\\xBF\u00e9"},
		{"\u20ac\u20ac\x80\xff\xe2\x82", 6, []int{0x20AC, 0x20AC, 0xFFFD, 0xFFFD, 0xFFFD}, []int{0x20AC, 0x20AC}, "\u20ac\u20ac\\x80\\xFF\\xE2\\x82"},
		{"\xc0\xaf", 0, []int{0xFFFD, 0xFFFD}, nil, `\xC0\xAF`},
		{"\xe2\xe2\x82\xe2\x82\xac", 0, []int{0xFFFD, 0xFFFD, 0x20AC}, []int{0x20AC}, "\\xE2\\xE2\\x82\u20ac"},
	} {
		for policy, want := range map[int][]int{api.Replace: c.replace, api.Skip: c.skip, api.Escape: ints(c.escape)} {
			if got, fault := utf8text.Decode(c.s, policy); !slices.Equal(got, want) || fault != (api.Fault{}) {
				t.Errorf("Decode(%X, %d) = %X, %v", c.s, policy, got, fault)
			}
		}
		if got, fault := utf8text.Decode(c.s, api.Fail); len(got) != 0 || fault != (api.Fault{Errno: api.ErrEncoding, At: c.at}) {
			t.Errorf("Decode(%X, Fail) = %X, %v", c.s, got, fault)
		}
		if utf8text.Valid(c.s) {
			t.Errorf("%X is valid", c.s)
		}
	}
}

func TestEscapesOfAllBytes(t *testing.T) {
	for b := 0x80; b < 0x100; b++ {
		want := ints(`\x` + strings.TrimPrefix(codepoint.Hex(b), "00"))
		if got, fault := utf8text.Decode(string([]byte{byte(b)}), api.Escape); !slices.Equal(got, want) || fault != (api.Fault{}) {
			t.Errorf("%X is decoded to %X, %v", b, got, fault)
		}
	}
}

// P3.3

// randomBytes returns forms, pieces of forms, and other bytes.
func randomBytes(r *rand.Rand) string {
	var out []byte
	for range r.Intn(8) {
		form := string(rune([]int{0x41, 0xE9, 0x7FF, 0x800, 0x20AC, 0xD7FF, 0xFFFD, 0x10000, 0x1F600, 0x10FFFF}[r.Intn(10)]))
		switch r.Intn(4) {
		case 0:
			form = form[:r.Intn(len(form)+1)]
		case 1:
			form = string([]byte{byte(r.Intn(256))})
		}
		out = append(out, form...)
	}
	return string(out)
}

func TestDecodeUndoesEncode(t *testing.T) {
	r := rand.New(rand.NewSource(1))
	for range 3000 {
		text := make([]int, r.Intn(10))
		for i := range text {
			for text[i] = r.Intn(1 << (1 + r.Intn(21))); !utf8.ValidRune(rune(text[i])); {
				text[i] = r.Intn(api.MaxCode + 1)
			}
		}
		for _, policy := range policies {
			s, fault := utf8text.Encode(text, policy)
			if fault != (api.Fault{}) {
				t.Fatal(text, policy, fault)
			}
			if back, fault := utf8text.Decode(s, policy); !slices.Equal(back, text) || fault != (api.Fault{}) {
				t.Fatal(text, policy, back, fault)
			}
		}
	}
}

func TestEncodeUndoesDecode(t *testing.T) {
	r := rand.New(rand.NewSource(2))
	for range 5000 {
		s := randomBytes(r)
		text, fault := utf8text.Decode(s, api.Fail)
		if utf8text.Valid(s) != (fault == api.Fault{}) || utf8text.Valid(s) != utf8.ValidString(s) {
			t.Fatalf("%X: %t, %v", s, utf8text.Valid(s), fault)
		}
		if utf8text.Valid(s) {
			if back, fault := utf8text.Encode(text, api.Fail); back != s || fault != (api.Fault{}) {
				t.Fatalf("%X: %X, %v", s, back, fault)
			}
		}
		for _, policy := range []int{api.Replace, api.Skip, api.Escape} {
			text, fault := utf8text.Decode(s, policy)
			if fault != (api.Fault{}) {
				t.Fatalf("%X: %v", s, fault)
			}
			if back, fault := utf8text.Encode(text, api.Fail); !utf8.ValidString(back) || fault != (api.Fault{}) {
				t.Fatalf("%X: %X, %v", s, back, fault)
			}
		}
	}
}

func TestDecodingDistributes(t *testing.T) {
	r := rand.New(rand.NewSource(3))
	for range 3000 {
		s := randomBytes(r)
		for at := 0; at < len(s); {
			_, n, _ := utf8text.Step(s[at:])
			at += n
			for _, policy := range []int{api.Replace, api.Skip, api.Escape} {
				whole, _ := utf8text.Decode(s, policy)
				first, _ := utf8text.Decode(s[:at], policy)
				second, _ := utf8text.Decode(s[at:], policy)
				if !slices.Equal(whole, slices.Concat(first, second)) {
					t.Fatalf("%X at %d with %d: %X", s, at, policy, whole)
				}
			}
		}
	}
}

func TestStringsAreInTheSameOrder(t *testing.T) {
	values := []int{0, 0x7F, 0x80, 0x7FF, 0x800, 0xD7FF, 0xE000, 0xFFFF, 0x10000, 0x10FFFF}
	var texts [][]int
	for _, a := range values {
		texts = append(texts, []int{a})
		for _, b := range values {
			texts = append(texts, []int{a, b})
		}
	}
	for _, a := range texts {
		for _, b := range texts {
			s, _ := utf8text.Encode(a, api.Fail)
			u, _ := utf8text.Encode(b, api.Fail)
			if strings.Compare(s, u) != codepoint.Compare(a, b) {
				t.Fatalf("%X %X", a, b)
			}
		}
	}
}

func TestArgumentsStay(t *testing.T) {
	text := slices.Concat([]int{0x41}, notScalar)
	before := slices.Clone(text)
	for _, policy := range policies {
		utf8text.Encode(text, policy)
	}
	if !slices.Equal(text, before) {
		t.Error(text)
	}
}
