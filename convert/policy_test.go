package convert_test

import (
	"fmt"
	"math/rand"
	"slices"
	"strings"
	"testing"

	"unicodetext/api"
	"unicodetext/convert"
)

// ints returns the characters of a string.
func ints(s string) []int {
	var text []int
	for _, c := range s {
		text = append(text, int(c))
	}
	return text
}

// decoded returns what Decode returns by the definition.
func decoded(e api.Encoding, s string, policy int) ([]int, api.Fault) {
	var text []int
	at := 0
	for _, p := range piecesOf(e, s) {
		switch {
		case p.ok:
			text = append(text, p.c)
		case policy == api.Fail:
			return nil, api.Fault{Errno: api.ErrEncoding, At: at}
		case policy == api.Replace:
			text = append(text, 0xFFFD)
		case policy == api.Escape:
			for _, b := range []byte(p.bytes) {
				text = append(text, ints(fmt.Sprintf(`\x%02X`, b))...)
			}
		}
		at += len(p.bytes)
	}
	return text, api.Fault{}
}

// encoded returns what Encode returns by the definition.
func encoded(e api.Encoding, text []int, policy int) (string, api.Fault) {
	var out strings.Builder
	for i, c := range text {
		form, ok := formOf(e, c)
		switch {
		case ok:
		case policy == api.Fail:
			return "", api.Fault{Errno: api.ErrUnmapped, At: i}
		case policy == api.Replace:
			if form, ok = formOf(e, 0xFFFD); !ok {
				form, _ = formOf(e, 0x3F)
			}
		case policy == api.Escape:
			escape := `\u{}`
			if c >= 0 && c <= api.MaxCode {
				escape = fmt.Sprintf(`\u{%04X}`, c)
			}
			for _, char := range escape {
				one, _ := formOf(e, int(char))
				form += one
			}
		}
		out.WriteString(form)
	}
	return out.String(), api.Fault{}
}

// converted returns what Convert returns by the definition.
func converted(from, to api.Encoding, s string, policy int) (string, api.Fault) {
	if policy != api.Fail {
		text, _ := decoded(from, s, policy)
		return encoded(to, text, policy)
	}
	at, out := 0, ""
	for _, p := range piecesOf(from, s) {
		if !p.ok {
			return "", api.Fault{Errno: api.ErrEncoding, At: at}
		}
		form, ok := formOf(to, p.c)
		if !ok {
			return "", api.Fault{Errno: api.ErrUnmapped, At: at}
		}
		out += form
		at += len(p.bytes)
	}
	return out, api.Fault{}
}

// P7.2

func TestDecode(t *testing.T) {
	for _, c := range []struct {
		e                     api.Encoding
		s                     string
		at                    int // of the fault
		replace, skip, escape string
	}{
		{utf8Bytes, "A\xE2\x82A", 1, "A\uFFFDA", "AA", `A\xE2\x82A`},
		{big, "\x00A\xD8\x00\x00B", 2, "A\uFFFDB", "AB", `A\xD8\x00B`},
		{little, "A\x00\x00\xDCB\x00", 2, "A\uFFFDB", "AB", `A\x00\xDCB`},
		{big, "\x41", 0, "\uFFFD", "", `\x41`},
		{big, "\xD8\x3D\xDE\x00\xD8\x3D\xDE", 4, "\U0001F600\uFFFD\uFFFD", "\U0001F600", "\U0001F600" + `\xD8\x3D\xDE`},
		{little, "\xFF\xFE\x00", 2, "\uFEFF\uFFFD", "\uFEFF", "\uFEFF" + `\x00`},
		{few(), "A\x00\x80\x0A", 1, "A\uFFFD\u00E9\uFFFD", "A\u00E9", "A\\x00\u00E9\\x0A"},
	} {
		for policy, want := range map[int]string{api.Replace: c.replace, api.Skip: c.skip, api.Escape: c.escape} {
			if got, fault := convert.Decode(c.e, c.s, policy); !slices.Equal(got, ints(want)) || fault != (api.Fault{}) {
				t.Errorf("Decode(%d, %X, %d) = %X, %v", c.e.Kind, c.s, policy, got, fault)
			}
		}
		if got, fault := convert.Decode(c.e, c.s, api.Fail); len(got) != 0 || fault != (api.Fault{Errno: api.ErrEncoding, At: c.at}) {
			t.Errorf("Decode(%d, %X, Fail) = %X, %v", c.e.Kind, c.s, got, fault)
		}
	}
}

func TestEncode(t *testing.T) {
	withReplacement := singleOf(map[int]int{0x41: 0x41, 0x01: 0xFFFD, 0x3F: 0x3F})
	moved := singleOf(map[int]int{0x41: 0x41, 0x3F: 0x42, 0xFF: 0x3F, 0x1A: 0x1A})
	without := singleOf(map[int]int{0x41: 0x41, 0x1A: 0x1A})
	for _, c := range []struct {
		e                     api.Encoding
		text                  []int
		at                    int // of the fault
		replace, skip, escape string
	}{
		{utf8Bytes, []int{0x41, 0xD800}, 1, "A\uFFFD", "A", `A\u{D800}`},
		{utf8Bytes, []int{-1}, 0, "\uFFFD", "", `\u{}`},
		{big, []int{0xDC00, 0x41}, 0, "\xFF\xFD\x00A", "\x00A", "\x00\\\x00u\x00{\x00D\x00C\x000\x000\x00}\x00A"},
		{little, []int{0x41, 0x110000}, 1, "A\x00\xFD\xFF", "A\x00", "A\x00\\\x00u\x00{\x00}\x00"},
		{few(), []int{0x41, 0xE9, 0x42, 0x1F600}, 2, "A\x80?\x81", "A\x80\x81", "A\x80\\u{00\x81"},
		{few(), []int{0xD800}, 0, "?", "", `\u{D800`},
		{withReplacement, []int{0x41, 0x42}, 1, "A\x01", "A", "A"},
		{withReplacement, []int{0xFFFD, -1, 0x41}, 1, "\x01\x01A", "\x01A", "\x01A"},
		{moved, []int{0x43}, 0, "\xFF", "", ""},
		{without, []int{0x41, 0x43}, 1, "A", "A", "A"},
	} {
		for policy, want := range map[int]string{api.Replace: c.replace, api.Skip: c.skip, api.Escape: c.escape} {
			if got, fault := convert.Encode(c.e, c.text, policy); got != want || fault != (api.Fault{}) {
				t.Errorf("Encode(%d, %X, %d) = %q, %v", c.e.Kind, c.text, policy, got, fault)
			}
		}
		if got, fault := convert.Encode(c.e, c.text, api.Fail); got != "" || fault != (api.Fault{Errno: api.ErrUnmapped, At: c.at}) {
			t.Errorf("Encode(%d, %X, Fail) = %q, %v", c.e.Kind, c.text, got, fault)
		}
	}
}

func TestDecodeAndEncodeAgreeWithTheDefinition(t *testing.T) {
	r := rand.New(rand.NewSource(2))
	for _, e := range encodings() {
		for range 1500 {
			s, text := randomBytes(r, 9), randomText(r, 6)
			given := slices.Clone(text)
			for _, policy := range policies {
				wantText, wantFault := decoded(e, s, policy)
				if got, fault := convert.Decode(e, s, policy); !slices.Equal(got, wantText) || fault != wantFault {
					t.Fatalf("Decode(%d, %X, %d) = %X, %v", e.Kind, s, policy, got, fault)
				}
				want, wantFault := encoded(e, text, policy)
				if got, fault := convert.Encode(e, text, policy); got != want || fault != wantFault || !slices.Equal(text, given) {
					t.Fatalf("Encode(%d, %X, %d) = %X, %v", e.Kind, text, policy, got, fault)
				}
			}
		}
	}
}

// checkRefused checks that decoding, encoding and converting return an error at 0 and nothing else.
func checkRefused(t *testing.T, from, to api.Encoding, policy int, errno api.Errno) {
	t.Helper()
	want := api.Fault{Errno: errno}
	for _, s := range []string{"", "A", "\xFF"} {
		if got, fault := convert.Convert(from, to, s, policy); got != "" || fault != want {
			t.Error("Convert", got, fault)
		}
	}
	if convert.Check(from) == api.OK && errno == api.ErrData {
		from = to
	}
	for _, s := range []string{"", "A", "\xFF"} {
		if got, fault := convert.Decode(from, s, policy); len(got) != 0 || fault != want {
			t.Error("Decode", got, fault)
		}
	}
	for _, text := range [][]int{nil, {0x41}, {-1}} {
		if got, fault := convert.Encode(from, text, policy); got != "" || fault != want {
			t.Error("Encode", got, fault)
		}
	}
}

func TestErrorsOfEncodingsPrecedeThoseOfPolicies(t *testing.T) {
	for _, policy := range append(unknownPolicies, policies...) {
		for _, w := range wrongEncodings() {
			checkRefused(t, w.encoding, utf8Bytes, policy, api.ErrData)
			checkRefused(t, utf8Bytes, w.encoding, policy, api.ErrData)
			checkRefused(t, w.encoding, w.encoding, policy, api.ErrData)
		}
	}
	for _, policy := range unknownPolicies {
		for _, e := range encodings() {
			checkRefused(t, e, utf8Bytes, policy, api.ErrKind)
			checkRefused(t, big, e, policy, api.ErrKind)
		}
	}
}

// P7.3

func TestConvert(t *testing.T) {
	if got, fault := convert.Convert(utf8Bytes, little, "A\xE2\x82\xAC\xF0\x9F\x98\x80", api.Fail); got != "A\x00\xAC\x20\x3D\xD8\x00\xDE" || fault != (api.Fault{}) {
		t.Errorf("%X %v", got, fault)
	}
	// The escape \xFF becomes \ and the escapes of x, F and F, as far as these have forms; then there is that of B.
	if got, fault := convert.Convert(utf8Bytes, few(), "A\xFF\u00E9B", api.Escape); got != `A\`+`\u{008`+`\u{00`+`\u{00`+"\x80"+`\u{00` || fault != (api.Fault{}) {
		t.Errorf("%X %v", got, fault)
	}
	for _, c := range []struct {
		s     string
		fault api.Fault
	}{
		{"A\u00E9", api.Fault{}},
		{"\u00E9\u20AC\xFF", api.Fault{Errno: api.ErrUnmapped, At: 2}},
		{"\u00E9\xFF\u20AC", api.Fault{Errno: api.ErrEncoding, At: 2}},
		{"A\u00E9A\U0001F601", api.Fault{Errno: api.ErrUnmapped, At: 4}},
		{"A\u00E9\U0001F600\xE2\x82", api.Fault{Errno: api.ErrEncoding, At: 7}},
	} {
		if got, fault := convert.Convert(utf8Bytes, few(), c.s, api.Fail); fault != c.fault || (got == "") != (fault.Errno != api.OK) {
			t.Errorf("%X: %X, %v", c.s, got, fault)
		}
	}
}

func TestConvertAgreesWithTheDefinition(t *testing.T) {
	r := rand.New(rand.NewSource(3))
	for _, from := range encodings() {
		for _, to := range encodings() {
			for range 200 {
				s := randomBytes(r, 9)
				for _, policy := range policies {
					want, wantFault := converted(from, to, s, policy)
					if got, fault := convert.Convert(from, to, s, policy); got != want || fault != wantFault {
						t.Fatalf("Convert(%d, %d, %X, %d) = %X, %v, not %X, %v", from.Kind, to.Kind, s, policy, got, fault, want, wantFault)
					}
				}
			}
		}
	}
}

// P7.5

func TestConvertingThereAndBack(t *testing.T) {
	r := rand.New(rand.NewSource(4))
	tried := 0
	for _, from := range encodings() {
		for _, to := range []api.Encoding{utf8Bytes, big, little} {
			for range 500 {
				s, _ := convert.Encode(from, randomText(r, 6), api.Skip)
				there, fault := convert.Convert(from, to, s, api.Fail)
				if fault != (api.Fault{}) {
					t.Fatalf("%X: %v", s, fault)
				}
				if back, fault := convert.Convert(to, from, there, api.Fail); back != s || fault != (api.Fault{}) {
					t.Fatalf("%X: %X, %v", s, back, fault)
				}
				tried += len(s)
			}
		}
	}
	if tried == 0 {
		t.Error("nothing was tried")
	}
}

func TestConvertDistributesOverPieces(t *testing.T) {
	r := rand.New(rand.NewSource(5))
	for _, from := range encodings() {
		for _, to := range encodings() {
			for range 50 {
				s := randomBytes(r, 9)
				for _, policy := range policies[1:] {
					whole, _ := convert.Convert(from, to, s, policy)
					joined := ""
					for _, p := range piecesOf(from, s) {
						one, _ := convert.Convert(from, to, p.bytes, policy)
						joined += one
					}
					if whole != joined {
						t.Fatalf("Convert(%d, %d, %X, %d) = %X, not %X", from.Kind, to.Kind, s, policy, whole, joined)
					}
				}
			}
		}
	}
}

func TestLongTexts(t *testing.T) {
	s := strings.Repeat("A\u00E9\u20AC\U0001F600\xFF", 20000)
	for _, e := range encodings() {
		there, fault := convert.Convert(utf8Bytes, e, s, api.Replace)
		if fault != (api.Fault{}) {
			t.Error(fault)
		}
		if text, fault := convert.Decode(e, there, api.Fail); fault != (api.Fault{}) || len(text) > 100000 {
			t.Error(len(text), fault)
		}
	}
}
