package charset_test

import (
	"math"
	"math/rand"
	"slices"
	"strconv"
	"strings"
	"testing"

	"unicodetext/api"
	"unicodetext/charset"
)

// of returns the charset in which the given bytes have characters.
func of(characters map[int]int) api.Charset {
	codes := slices.Repeat([]int{-1}, 256)
	for b, code := range characters {
		codes[b] = code
	}
	return api.Charset{Codes: codes}
}

// upTo returns the charset whose bytes below n have the code points of the same number, and the others the one added to.
func upTo(n, added int) api.Charset {
	codes := make([]int, 256)
	for b := range codes {
		codes[b] = b
		if b >= n {
			codes[b] = b + added
		}
	}
	return api.Charset{Codes: codes}
}

func same(a, b api.Charset) bool {
	return slices.Equal(a.Codes, b.Codes)
}

var policies = []int{api.Fail, api.Replace, api.Skip, api.Escape}

// invalid returns charsets with errors.
func invalid() map[api.Errno][]api.Charset {
	at := func(b, code int) api.Charset {
		c := upTo(128, 0x400)
		c.Codes[b] = code
		return c
	}
	both := at(1, 0xD800)
	both.Codes[2] = 3
	return map[api.Errno][]api.Charset{
		api.ErrSize: {{}, {Codes: []int{-2}}, {Codes: make([]int, 255)}, {Codes: make([]int, 257)}, {Codes: slices.Repeat([]int{-2}, 512)}},
		// The second element and the last one precede two of the same.
		api.ErrRange: {at(0, -2), at(255, math.MinInt), at(5, 0xD800), at(6, 0xDFFF), at(7, 0x110000), at(255, math.MaxInt), both, {Codes: append(make([]int, 255), -2)}},
		api.ErrTwice: {at(0, 1), at(255, 0), at(128, 0x400+129), {Codes: make([]int, 256)}, of(map[int]int{9: 0x10FFFF, 200: 0x10FFFF})},
	}
}

// P6.1

func TestCheck(t *testing.T) {
	for want, l := range invalid() {
		for i, c := range l {
			if errno := charset.Check(c); errno != want {
				t.Errorf("charset %d: %v, not %v", i, errno, want)
			}
		}
	}
	for i, c := range []api.Charset{of(nil), upTo(256, 0), upTo(128, 0x10FF00), of(map[int]int{0: 0xD7FF, 255: 0xE000, 7: 0xFFFE})} {
		if errno := charset.Check(c); errno != api.OK {
			t.Errorf("charset %d: %v", i, errno)
		}
	}
}

func TestCharsetsWithErrors(t *testing.T) {
	data := api.Fault{Errno: api.ErrData}
	for want, l := range invalid() {
		for _, c := range l {
			for _, policy := range append([]int{0, 5}, policies...) {
				if s, fault := charset.Encode(c, []int{0x41, -1}, policy); s != "" || fault != data {
					t.Error(s, fault)
				}
				if text, fault := charset.Decode(c, "A\xFF", policy); len(text) != 0 || fault != data {
					t.Error(text, fault)
				}
			}
			if s, errno := charset.Text(c); s != "" || errno != want {
				t.Error(s, errno)
			}
			if l := charset.Missing(c, []int{0x41, 0x2603}); len(l) != 0 {
				t.Error(l)
			}
		}
	}
}

// P6.2

func TestUnknownPolicies(t *testing.T) {
	kind := api.Fault{Errno: api.ErrKind}
	for _, policy := range []int{0, 5, -1, math.MaxInt, math.MinInt} {
		for _, c := range []api.Charset{of(nil), upTo(256, 0)} {
			if s, fault := charset.Encode(c, []int{-1}, policy); s != "" || fault != kind {
				t.Error(policy, s, fault)
			}
			if text, fault := charset.Decode(c, "", policy); len(text) != 0 || fault != kind {
				t.Error(policy, text, fault)
			}
		}
	}
}

func TestEncode(t *testing.T) {
	few := of(map[int]int{0x41: 0x41, 0x3F: 0x3F})
	for _, c := range []struct {
		charset api.Charset
		text    []int
		fault   int // the index of the first element without a byte; -1 if there is none
		want    [3]string
	}{
		{few, nil, -1, [3]string{}},
		{few, []int{0x41, 0x3F, 0x41}, -1, [3]string{"A?A", "A?A", "A?A"}},
		{few, []int{0xE9, 0x41}, 0, [3]string{"?A", "A", "A"}},
		// The question mark is a byte like others: it may be elsewhere, and another character may have its byte.
		{of(map[int]int{0x80: 0x3F, 0x3F: 0x41, 0x1A: 0x1A}), []int{0x41, 0xE9}, 1, [3]string{"?\x80", "?", "?"}},
		{of(map[int]int{0x90: 0x1A, 0x41: 0x41}), []int{0x41, 0xE9, 0x41}, 1, [3]string{"A\x90A", "AA", "AA"}},
		{of(map[int]int{0x41: 0x41}), []int{0x41, 0xE9, 0x41}, 1, [3]string{"AA", "AA", "AA"}},
		{upTo(128, 0x2000), []int{0x41, 0xE9, 0x2080, 0x20FF}, 1, [3]string{"A?\x80\xFF", "A\x80\xFF", `A\u{00E9}` + "\x80\xFF"}},
		{upTo(128, 0x2000), []int{0x1F600, 0xD800, 0x110000, -1, math.MinInt, 0x7F}, 0, [3]string{"?????\x7F", "\x7F", `\u{1F600}\u{D800}\u{}\u{}\u{}` + "\x7F"}},
		// Bytes without a character have the code -1, which is no character.
		{few, []int{0x41, -1}, 1, [3]string{"A?", "A", "A"}},
		// Only some of the characters of an escape have bytes.
		{of(map[int]int{1: '\\', 2: '{', 3: '}', 4: 'E', 5: '9'}), []int{'9', 0xE9, '{'}, 1, [3]string{"\x05\x02", "\x05\x02", "\x05\x01\x02\x04\x05\x03\x02"}},
		{of(map[int]int{0x75: 'u', 0x30: '0'}), []int{0x10FFFF, 0x100}, 0, [3]string{"", "", "u0u000"}},
	} {
		s, fault := charset.Encode(c.charset, c.text, api.Fail)
		switch {
		case c.fault < 0 && (fault != api.Fault{} || s != c.want[0]):
			t.Error(c.text, s, fault)
		case c.fault >= 0 && (fault != api.Fault{Errno: api.ErrUnmapped, At: c.fault} || s != ""):
			t.Error(c.text, s, fault)
		}
		for i, want := range c.want {
			if s, fault := charset.Encode(c.charset, c.text, policies[i+1]); s != want || fault != (api.Fault{}) {
				t.Errorf("policy %d: %X gives %q, not %q; %v", policies[i+1], c.text, s, want, fault)
			}
		}
	}
}

func TestDecode(t *testing.T) {
	few := of(map[int]int{0x41: 0x41, 0x80: 0x20AC})
	for _, c := range []struct {
		s     string
		fault int
		want  [3][]int
	}{
		{"", -1, [3][]int{}},
		{"A\x80A", -1, [3][]int{{0x41, 0x20AC, 0x41}, {0x41, 0x20AC, 0x41}, {0x41, 0x20AC, 0x41}}},
		{"\xE2\x82A", 0, [3][]int{{0xFFFD, 0xFFFD, 0x41}, {0x41}, {'\\', 'x', 'E', '2', '\\', 'x', '8', '2', 0x41}}},
		{"A\x00\x80\n", 1, [3][]int{{0x41, 0xFFFD, 0x20AC, 0xFFFD}, {0x41, 0x20AC}, {0x41, '\\', 'x', '0', '0', 0x20AC, '\\', 'x', '0', 'A'}}},
	} {
		text, fault := charset.Decode(few, c.s, api.Fail)
		switch {
		case c.fault < 0 && (fault != api.Fault{} || !slices.Equal(text, c.want[0])):
			t.Error(c.s, text, fault)
		case c.fault >= 0 && (fault != api.Fault{Errno: api.ErrEncoding, At: c.fault} || len(text) != 0):
			t.Error(c.s, text, fault)
		}
		for i, want := range c.want {
			if text, fault := charset.Decode(few, c.s, policies[i+1]); !slices.Equal(text, want) || fault != (api.Fault{}) {
				t.Errorf("policy %d: %q gives %X, not %X; %v", policies[i+1], c.s, text, want, fault)
			}
		}
	}
}

// P6.3

func TestTextAndParse(t *testing.T) {
	for _, c := range []struct {
		charset api.Charset
		want    string
	}{
		{of(nil), ""},
		{of(map[int]int{0x41: 0x41}), "41 0041\n"},
		{of(map[int]int{0xFF: 0, 0: 0x10FFFF, 0x0A: 0x1F600, 0xA0: 0xFFFE}), "00 10FFFF\n0A 1F600\nA0 FFFE\nFF 0000\n"},
	} {
		if s, errno := charset.Text(c.charset); s != c.want || errno != api.OK {
			t.Errorf("%q, not %q; %v", s, c.want, errno)
		}
		for _, s := range []string{c.want, strings.TrimSuffix(c.want, "\n"), "\n\n" + strings.ReplaceAll(c.want, "\n", "\n\n\n")} {
			if got, fault := charset.Parse(s); !same(got, c.charset) || fault != (api.Fault{}) {
				t.Errorf("%q: %v", s, fault)
			}
		}
	}
	if got, fault := charset.Parse("FF 0000\n41 0042\n42 0041"); !same(got, of(map[int]int{0xFF: 0, 0x41: 0x42, 0x42: 0x41})) || fault != (api.Fault{}) {
		t.Error(got, fault)
	}
}

func TestParseFaults(t *testing.T) {
	for _, c := range []struct {
		s     string
		errno api.Errno
		at    int
	}{
		{" ", api.ErrSyntax, 1},
		{"41", api.ErrSyntax, 1},
		{"41 ", api.ErrSyntax, 1},
		{"410041", api.ErrSyntax, 1},
		{"41  0041", api.ErrSyntax, 1},
		{" 41 0041", api.ErrSyntax, 1},
		{"41 0041 ", api.ErrSyntax, 1},
		{"41\t0041", api.ErrSyntax, 1},
		{"4 0041", api.ErrSyntax, 1},
		{"041 0041", api.ErrSyntax, 1},
		{"4a 0041", api.ErrSyntax, 1},
		{"4G 0041", api.ErrSyntax, 1},
		{"-1 0041", api.ErrSyntax, 1},
		{"41 41", api.ErrSyntax, 1},
		{"41 00041", api.ErrSyntax, 1},
		{"41 00e9", api.ErrSyntax, 1},
		{"41 110000", api.ErrSyntax, 1},
		{"41 D800", api.ErrSyntax, 1},
		{"41 DFFF", api.ErrSyntax, 1},
		{"41 -1", api.ErrSyntax, 1},
		{"41 0041\r\n", api.ErrSyntax, 1},
		{"41 0041 # comment", api.ErrSyntax, 1},
		{"\n\n41 0041\n\n42 D800\n41 0041", api.ErrSyntax, 5},
		{"41 0041\n42 0042\n41 0043", api.ErrTwice, 3},
		{"41 0041\n\n42 0041\nx", api.ErrTwice, 3},
		{"41 0041\n41 0041", api.ErrTwice, 2},
		{"41 0041\nx\n41 0041", api.ErrSyntax, 2},
		// A line of another form is no earlier line with its byte, and has no second error.
		{"41 0041\n41 D800", api.ErrSyntax, 2},
		{strings.Repeat("\n", api.MaxText+1), api.ErrSize, 0},
		{"x" + strings.Repeat("\n", api.MaxText), api.ErrSize, 0},
		{"x" + strings.Repeat("\n", api.MaxText-1), api.ErrSyntax, 1},
	} {
		if got, fault := charset.Parse(c.s); len(got.Codes) != 0 || fault != (api.Fault{Errno: c.errno, At: c.at}) {
			t.Errorf("%.40q: %v", c.s, fault)
		}
	}
	if got, fault := charset.Parse(strings.Repeat("\n", api.MaxText)); !same(got, of(nil)) || fault != (api.Fault{}) {
		t.Error(fault)
	}
}

func TestMissing(t *testing.T) {
	c := of(map[int]int{0x41: 0x41, 0x42: 0x100})
	for _, x := range []struct{ text, want []int }{
		{nil, nil},
		{[]int{0x41, 0x100, 0x41}, nil},
		{[]int{0x42}, []int{0x42}},
		{[]int{0x300, -1, 0x41, 0x200, -1, 0x300, math.MaxInt, math.MinInt, 0x110000, 0xD800}, []int{math.MinInt, -1, 0x200, 0x300, 0xD800, 0x110000, math.MaxInt}},
	} {
		text := slices.Clone(x.text)
		if got := charset.Missing(c, text); !slices.Equal(got, x.want) || !slices.Equal(text, x.text) {
			t.Errorf("%X: %X", x.text, got)
		}
	}
}

// P6.4

// random returns a valid charset in which most bytes have characters.
func random(r *rand.Rand) api.Charset {
	characters := map[int]int{}
	used := map[int]bool{}
	for b := range 256 {
		code := r.Intn(1 << (7 + r.Intn(14)))
		if code > api.MaxCode || code >= 0xD800 && code <= 0xDFFF || used[code] {
			continue
		}
		characters[b], used[code] = code, true
	}
	return of(characters)
}

func TestRandomCharsets(t *testing.T) {
	r := rand.New(rand.NewSource(1))
	for range 300 {
		c := random(r)
		s, errno := charset.Text(c)
		if back, fault := charset.Parse(s); errno != api.OK || fault != (api.Fault{}) || !same(back, c) {
			t.Fatal(s, errno, fault)
		}
		var known []int
		for _, code := range c.Codes {
			if code >= 0 {
				known = append(known, code)
			}
		}
		text := make([]int, r.Intn(20))
		for i := range text {
			text[i] = known[r.Intn(len(known))]
			if r.Intn(15) == 0 {
				text[i] = r.Intn(0x300) - 1
			}
		}
		s, fault := charset.Encode(c, text, api.Fail)
		if (len(charset.Missing(c, text)) == 0) != (fault == api.Fault{}) {
			t.Fatal(text, fault, charset.Missing(c, text))
		}
		if fault == (api.Fault{}) {
			if back, fault := charset.Decode(c, s, api.Fail); fault != (api.Fault{}) || !slices.Equal(back, text) {
				t.Fatal(text, back, fault)
			}
		}
		bytes := make([]byte, r.Intn(6))
		r.Read(bytes)
		if text, fault := charset.Decode(c, string(bytes), api.Fail); fault == (api.Fault{}) {
			if back, fault := charset.Encode(c, text, api.Fail); fault != (api.Fault{}) || back != string(bytes) {
				t.Fatal(bytes, back, fault)
			}
		}
	}
}

// Every byte has the two digits of its number, and is found again.
func TestAllBytes(t *testing.T) {
	c := upTo(100, 0xE000)
	text, errno := charset.Text(c)
	lines := strings.Split(text, "\n")
	if errno != api.OK || len(lines) != 257 {
		t.Fatal(errno, len(lines))
	}
	for b, code := range c.Codes {
		digits := strings.ToUpper(strconv.FormatInt(int64(b)+0x100, 16))[1:]
		if !strings.HasPrefix(lines[b], digits+" ") {
			t.Error(b, lines[b])
		}
		if s, fault := charset.Encode(c, []int{code}, api.Fail); s != string([]byte{byte(b)}) || fault != (api.Fault{}) {
			t.Error(b, s, fault)
		}
	}
}
