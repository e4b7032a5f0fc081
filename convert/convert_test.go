package convert_test

import (
	"math"
	"math/rand"
	"slices"
	"testing"
	"unicode/utf16"
	"unicode/utf8"

	"unicodetext/api"
	"unicodetext/convert"
	"unicodetext/utf8text"
)

var (
	utf8Bytes = api.Encoding{Kind: api.UTF8}
	big       = api.Encoding{Kind: api.UTF16BE}
	little    = api.Encoding{Kind: api.UTF16LE}
)

var policies = []int{api.Fail, api.Replace, api.Skip, api.Escape}

var unknownPolicies = []int{0, 5, -1, math.MinInt, math.MaxInt}

var notScalar = []int{-1, math.MinInt, 0xD800, 0xDBFF, 0xDC00, 0xDFFF, 0x110000, math.MaxInt}

// charsetOf returns a charset with these characters of bytes.
func charsetOf(characters map[int]int) api.Charset {
	codes := slices.Repeat([]int{-1}, 256)
	for b, c := range characters {
		codes[b] = c
	}
	return api.Charset{Codes: codes}
}

// singleOf returns an encoding with one byte for each of these characters.
func singleOf(characters map[int]int) api.Encoding {
	return api.Encoding{Kind: api.Single, Charset: charsetOf(characters)}
}

// latin returns the encoding whose bytes are the characters with their numbers.
func latin() api.Encoding {
	characters := map[int]int{}
	for b := range 256 {
		characters[b] = b
	}
	return singleOf(characters)
}

// few has the characters A, e with acute, the question mark, and those of most escapes.
func few() api.Encoding {
	return singleOf(map[int]int{0x41: 0x41, 0x80: 0xE9, 0x81: 0x1F600, 0x3F: 0x3F, 0x30: '0', 0x38: '8', 0x44: 'D', 0x5C: '\\', 0x75: 'u', 0x7B: '{'})
}

// encodings are encodings without an error.
func encodings() []api.Encoding {
	return []api.Encoding{
		utf8Bytes, big, little, latin(), few(),
		singleOf(nil),
		singleOf(map[int]int{0x41: 0x41, 0x01: 0xFFFD, 0x3F: 0x3F}),
		singleOf(map[int]int{0x00: 0x41, 0xFF: 0x3F, 0x3F: 0x42, 0x1A: 0x1A}),
	}
}

// A wrongEncoding is an encoding with an error.
type wrongEncoding struct {
	encoding api.Encoding
	errno    api.Errno
}

func wrongEncodings() []wrongEncoding {
	twice := charsetOf(map[int]int{1: 0x41, 2: 0x41})
	long := charsetOf(map[int]int{1: 0x41, 2: 0xD800})
	long.Codes = append(long.Codes, -1)
	return []wrongEncoding{
		{api.Encoding{}, api.ErrKind},
		{api.Encoding{Kind: 5}, api.ErrKind},
		{api.Encoding{Kind: -1, Charset: latin().Charset}, api.ErrKind},
		{api.Encoding{Kind: math.MinInt, Charset: twice}, api.ErrKind},
		{api.Encoding{Kind: math.MaxInt}, api.ErrKind},
		{api.Encoding{Kind: api.Single}, api.ErrSize},
		{api.Encoding{Kind: api.Single, Charset: api.Charset{Codes: make([]int, 255)}}, api.ErrSize},
		{api.Encoding{Kind: api.Single, Charset: long}, api.ErrSize},
		{singleOf(map[int]int{7: 0xD800}), api.ErrRange},
		{singleOf(map[int]int{7: -2}), api.ErrRange},
		{singleOf(map[int]int{7: 0x110000, 1: 0x41, 2: 0x41}), api.ErrRange},
		{api.Encoding{Kind: api.Single, Charset: twice}, api.ErrTwice},
	}
}

// formOf returns the form of a number by the definition, and whether there is one.
func formOf(e api.Encoding, c int) (string, bool) {
	if e.Kind == api.Single {
		if b := slices.Index(e.Charset.Codes, c); b >= 0 && c != -1 {
			return string([]byte{byte(b)}), true
		}
		return "", false
	}
	if c < 0 || c > utf8.MaxRune || !utf8.ValidRune(rune(c)) {
		return "", false
	}
	if e.Kind == api.UTF8 {
		return string(rune(c)), true
	}
	var form []byte
	for _, unit := range utf16.Encode([]rune{rune(c)}) {
		if e.Kind == api.UTF16BE {
			form = append(form, byte(unit>>8), byte(unit))
		} else {
			form = append(form, byte(unit), byte(unit>>8))
		}
	}
	return string(form), true
}

// A piece is a form or an ill-formed part.
type piece struct {
	bytes string
	c     int
	ok    bool
}

// pieceOf returns the first piece of s, which is not empty, by the definition.
func pieceOf(e api.Encoding, s string) piece {
	switch e.Kind {
	case api.UTF8:
		c, n, ok := utf8text.Step(s)
		return piece{s[:n], c, ok}
	case api.Single:
		if c := e.Charset.Codes[s[0]]; c >= 0 {
			return piece{s[:1], c, true}
		}
		return piece{s[:1], 0, false}
	}
	unit := func(at int) rune {
		if e.Kind == api.UTF16BE {
			return rune(s[at])<<8 | rune(s[at+1])
		}
		return rune(s[at+1])<<8 | rune(s[at])
	}
	switch {
	case len(s) >= 2 && !utf16.IsSurrogate(unit(0)):
		return piece{s[:2], int(unit(0)), true}
	case len(s) >= 4 && utf16.DecodeRune(unit(0), unit(2)) != utf8.RuneError:
		return piece{s[:4], int(utf16.DecodeRune(unit(0), unit(2))), true}
	}
	return piece{s[:min(2, len(s))], 0, false}
}

// piecesOf returns the pieces of s.
func piecesOf(e api.Encoding, s string) []piece {
	var l []piece
	for len(s) > 0 {
		p := pieceOf(e, s)
		l = append(l, p)
		s = s[len(p.bytes):]
	}
	return l
}

// randomBytes returns bytes that are often forms, parts of forms, and halves of pairs.
func randomBytes(r *rand.Rand, most int) string {
	bytes := []byte{0x00, 0x1A, 0x30, 0x3F, 0x41, 0x41, 0x80, 0x81, 0x82, 0xA0, 0xC3, 0xD8, 0xD8, 0xDB, 0xDC, 0xDC, 0xDF, 0xE2, 0xED, 0xF0, 0xF4, 0xFE, 0xFF}
	s := make([]byte, r.Intn(most+1))
	for i := range s {
		s[i] = bytes[r.Intn(len(bytes))]
	}
	return string(s)
}

// randomText returns elements that have forms in some encodings, or in none.
func randomText(r *rand.Rand, most int) []int {
	codes := []int{0, 0x1A, 0x30, 0x3F, 0x41, 0x41, 0x42, 0x7F, 0x80, 0xE9, 0xFF, 0x100, 0x7FF, 0x800, 0xD7FF, 0xD800, 0xDC00, 0xE000, 0xFEFF, 0xFFFD, 0xFFFE, 0xFFFF, 0x10000, 0x1F600, 0x10FFFF, 0x110000, -1}
	text := make([]int, r.Intn(most+1))
	for i := range text {
		text[i] = codes[r.Intn(len(codes))]
	}
	return text
}

// P7.1

func TestCheck(t *testing.T) {
	for i, e := range encodings() {
		if errno := convert.Check(e); errno != api.OK {
			t.Error(i, errno)
		}
	}
	for i, w := range wrongEncodings() {
		if errno := convert.Check(w.encoding); errno != w.errno {
			t.Error(i, errno)
		}
	}
	for _, kind := range []int{api.UTF8, api.UTF16BE, api.UTF16LE} { // these have no charset
		if errno := convert.Check(api.Encoding{Kind: kind, Charset: api.Charset{Codes: []int{-5}}}); errno != api.OK {
			t.Error(kind, errno)
		}
	}
}

func TestStepAndPutWithAnError(t *testing.T) {
	for i, w := range wrongEncodings() {
		for _, s := range []string{"", "A", "AB"} {
			if c, n, ok := convert.Step(w.encoding, s); c != 0 || n != 0 || ok {
				t.Error(i, c, n, ok)
			}
		}
		if form, ok := convert.Put(w.encoding, 0x41); form != "" || ok {
			t.Error(i, form)
		}
	}
}

// checkForm checks Put of a number, and Step of its form with bytes after it.
func checkForm(t *testing.T, e api.Encoding, c int) {
	t.Helper()
	form, has := formOf(e, c)
	if got, ok := convert.Put(e, c); got != form || ok != has {
		t.Fatalf("Put(%d, %X) = %X, %v", e.Kind, c, got, ok)
	}
	if !has {
		return
	}
	if got, n, ok := convert.Step(e, form+"\xDC\x00\xDC"); got != c || n != len(form) || !ok {
		t.Fatalf("Step(%d, %X and more) = %X, %d, %v", e.Kind, form, got, n, ok)
	}
}

func TestFormsOfAllNumbers(t *testing.T) {
	for c := -1; c <= api.MaxCode+1; c++ {
		checkForm(t, utf8Bytes, c)
		checkForm(t, big, c)
		checkForm(t, little, c)
	}
	for _, e := range encodings() {
		for c := -1; c < 300; c++ {
			checkForm(t, e, c)
		}
		for _, c := range append([]int{0xFFFD, 0xFEFF, 0x1F600, -2}, notScalar...) {
			checkForm(t, e, c)
		}
	}
}

func TestStep(t *testing.T) {
	for _, c := range []struct {
		e  api.Encoding
		s  string
		c  int
		n  int
		ok bool
	}{
		{big, "\x41", 0, 1, false},
		{little, "\x41", 0, 1, false},
		{big, "\x00A", 0x41, 2, true},
		{little, "\x00A", 0x4100, 2, true},
		{big, "\xFE\xFF", 0xFEFF, 2, true},
		{little, "\xFE\xFF", 0xFFFE, 2, true},
		{big, "\xD8\x3D\xDE\x00", 0x1F600, 4, true},
		{little, "\x3D\xD8\x00\xDE", 0x1F600, 4, true},
		{big, "\xD8\x3D\xDE", 0, 2, false},
		{big, "\xD8\x3D", 0, 2, false},
		{big, "\xD8", 0, 1, false},
		{big, "\xD8\x00\x00A", 0, 2, false},
		{big, "\xD8\x00\xD8\x00\xDC\x00", 0, 2, false},
		{big, "\xDC\x00\xDC\x00", 0, 2, false},
		{little, "\x00\xDC\x00\xD8", 0, 2, false},
		{utf8Bytes, "\xE2\x82A", 0, 2, false},
		{utf8Bytes, "\xC3\xA9", 0xE9, 2, true},
		{few(), "\x80A", 0xE9, 1, true},
		{few(), "\x81", 0x1F600, 1, true},
		{few(), "\x00", 0, 1, false},
		{few(), "\xFFA", 0, 1, false},
		{latin(), "\xFF", 0xFF, 1, true},
		{utf8Bytes, "", 0, 0, false},
		{big, "", 0, 0, false},
		{latin(), "", 0, 0, false},
	} {
		if got, n, ok := convert.Step(c.e, c.s); got != c.c || n != c.n || ok != c.ok {
			t.Errorf("Step(%d, %X) = %X, %d, %v", c.e.Kind, c.s, got, n, ok)
		}
	}
}

func TestStepAgreesWithTheDefinition(t *testing.T) {
	r := rand.New(rand.NewSource(1))
	for _, e := range encodings() {
		for range 5000 {
			s := randomBytes(r, 5)
			want := piece{}
			if s != "" {
				want = pieceOf(e, s)
			}
			if c, n, ok := convert.Step(e, s); c != want.c || n != len(want.bytes) || ok != want.ok {
				t.Fatalf("Step(%d, %X) = %X, %d, %v", e.Kind, s, c, n, ok)
			}
		}
	}
}

// P7.4

func TestGuess(t *testing.T) {
	for s, want := range map[string][2]int{
		"\xEF\xBB\xBF": {api.UTF8, 3}, "\xEF\xBB\xBFA": {api.UTF8, 3}, "\xFE\xFF": {api.UTF16BE, 2}, "\xFE\xFF\xFF": {api.UTF16BE, 2},
		"\xFF\xFE": {api.UTF16LE, 2}, "\xFF\xFE\x00\x00": {api.UTF16LE, 2}, "": {}, "A": {}, "\xEF\xBB": {}, "\xEF\xBBA": {}, "\xFE": {}, "\xFF": {},
		"A\xFE\xFF": {}, "\xFE\xFE": {}, "\xFF\xFF": {}, "\xBF\xBB\xEF": {}, " \xEF\xBB\xBF": {},
	} {
		if kind, n := convert.Guess(s); kind != want[0] || n != want[1] {
			t.Errorf("Guess(%X) = %d, %d", s, kind, n)
		}
	}
}
