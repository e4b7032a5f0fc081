package convstream_test

import (
	"math"
	"math/rand"
	"slices"
	"strings"
	"testing"

	"unicodetext/api"
	"unicodetext/convert"
	"unicodetext/convstream"
)

var (
	utf8Bytes = api.Encoding{Kind: api.UTF8}
	big       = api.Encoding{Kind: api.UTF16BE}
	little    = api.Encoding{Kind: api.UTF16LE}
)

var policies = []int{api.Fail, api.Replace, api.Skip, api.Escape}

var closed = api.Fault{Errno: api.ErrClosed}

// few returns an encoding with one byte for each of some characters.
func few() api.Encoding {
	codes := slices.Repeat([]int{-1}, 256)
	for b, c := range map[int]int{0x41: 0x41, 0x80: 0xE9, 0xE2: 0x1F600, 0x3F: 0x3F, 0x5C: '\\', 0x78: 'x', 0x38: '8'} {
		codes[b] = c
	}
	return api.Encoding{Kind: api.Single, Charset: api.Charset{Codes: codes}}
}

func encodings() []api.Encoding {
	return []api.Encoding{utf8Bytes, big, little, few()}
}

// open returns a stream.
func open(t *testing.T, from, to api.Encoding, policy int) *convstream.Stream {
	t.Helper()
	s, errno := convstream.New(from, to, policy)
	if errno != api.OK || s == nil {
		t.Fatal(errno)
	}
	return s
}

// P8.1

func TestNew(t *testing.T) {
	twice := few()
	twice.Charset.Codes[0] = 0x41
	wrong := []api.Encoding{{}, {Kind: 5}, {Kind: math.MinInt}, {Kind: api.Single}, twice}
	for _, good := range encodings() {
		for _, policy := range policies {
			if s := open(t, good, utf8Bytes, policy); s.Pending() != "" {
				t.Error(s.Pending())
			}
		}
		for _, policy := range []int{0, 5, -1, math.MaxInt, math.MinInt} {
			if s, errno := convstream.New(good, good, policy); s != nil || errno != api.ErrKind {
				t.Error(policy, s, errno)
			}
		}
		for i, bad := range wrong {
			for _, policy := range []int{api.Fail, 0} {
				if s, errno := convstream.New(bad, good, policy); s != nil || errno != api.ErrData {
					t.Error(i, s, errno)
				}
				if s, errno := convstream.New(good, bad, policy); s != nil || errno != api.ErrData {
					t.Error(i, s, errno)
				}
			}
		}
	}
}

func TestNewDoesNotKeepCharsets(t *testing.T) {
	from, to := few(), few()
	s := open(t, from, to, api.Fail)
	clear(from.Charset.Codes)
	clear(to.Charset.Codes)
	if out, fault := s.Write("A?"); out != "A?" || fault != (api.Fault{}) {
		t.Errorf("%q %v", out, fault)
	}
}

// P8.2

// A step is what is written, with the result and what is pending then.
type step struct{ in, out, pending string }

func TestWrite(t *testing.T) {
	for i, c := range []struct {
		from, to api.Encoding
		policy   int
		steps    []step
		last     string
	}{
		{utf8Bytes, utf8Bytes, api.Fail, []step{{"\xE2\x82", "", "\xE2\x82"}, {"\xAC", "\u20AC", ""}}, ""},
		{utf8Bytes, big, api.Fail, []step{{"", "", ""}, {"A\xF0", "\x00A", "\xF0"}, {"\x9F\x98", "", "\xF0\x9F\x98"}, {"", "", "\xF0\x9F\x98"}, {"\x80B", "\xD8\x3D\xDE\x00\x00B", ""}}, ""},
		{utf8Bytes, utf8Bytes, api.Replace, []step{{"\xF0\x80", "\uFFFD\uFFFD", ""}, {"\xE0", "", "\xE0"}, {"\x9F", "\uFFFD\uFFFD", ""}, {"\xED\xA0", "\uFFFD\uFFFD", ""}, {"\xF4", "", "\xF4"}, {"\x8F\xBF", "", "\xF4\x8F\xBF"}}, "\uFFFD"},
		{utf8Bytes, utf8Bytes, api.Escape, []step{{"\xE2\x82", "", "\xE2\x82"}, {"A\xC3", `\xE2\x82A`, "\xC3"}}, `\xC3`},
		{utf8Bytes, utf8Bytes, api.Skip, []step{{"\xFF\xC0\x80\xC2", "", "\xC2"}, {"\xC2", "", "\xC2"}, {"\xA0", "\u00A0", ""}}, ""},
		{big, utf8Bytes, api.Replace, []step{{"\xD8\x00\x41", "\uFFFD", "\x41"}, {"\x42", "\u4142", ""}}, ""},
		{big, utf8Bytes, api.Replace, []step{{"\xD8\x00\xDC", "", "\xD8\x00\xDC"}, {"\x01", "\U00010001", ""}, {"\xD8", "", "\xD8"}, {"\x00", "", "\xD8\x00"}, {"\xD8\x00", "\uFFFD", "\xD8\x00"}}, "\uFFFD"},
		{big, utf8Bytes, api.Replace, []step{{"\xDC\x00", "\uFFFD", ""}, {"\xDC", "", "\xDC"}, {"\x00\xDC\x00\xD8\x00", "\uFFFD\uFFFD", "\xD8\x00"}, {"\xE0", "\uFFFD", "\xE0"}}, "\uFFFD"},
		{little, utf8Bytes, api.Replace, []step{{"\x00\xD8\x41", "", "\x00\xD8\x41"}, {"\x00", "\uFFFDA", ""}, {"\x00\xD8\x41", "", "\x00\xD8\x41"}, {"\xDC", "\U00010041", ""}, {"A", "", "A"}}, "\uFFFD"},
		{few(), utf8Bytes, api.Replace, []step{{"\xE2", "\U0001F600", ""}, {"\x00\x80", "\uFFFD\u00E9", ""}, {"\x81", "\uFFFD", ""}}, ""},
		{utf8Bytes, few(), api.Replace, []step{{"\xE2\x82\xAC\xF0\x9F\x98", "?", "\xF0\x9F\x98"}, {"\x80", "\xE2", ""}}, ""},
	} {
		s := open(t, c.from, c.to, c.policy)
		for _, w := range c.steps {
			out, fault := s.Write(w.in)
			if out != w.out || fault != (api.Fault{}) || s.Pending() != w.pending {
				t.Errorf("%d: Write(%q) = %q, %v, and pending is %q", i, w.in, out, fault, s.Pending())
			}
		}
		if out, fault := s.Close(); out != c.last || fault != (api.Fault{}) {
			t.Errorf("%d: Close = %q, %v", i, out, fault)
		}
		checkClosed(t, s)
	}
}

// checkClosed checks that a stream does nothing any more.
func checkClosed(t *testing.T, s *convstream.Stream) {
	t.Helper()
	for range 2 {
		if s.Pending() != "" {
			t.Errorf("%q", s.Pending())
		}
		for _, in := range []string{"", "A", "\xFF", "\xE2"} {
			if out, fault := s.Write(in); out != "" || fault != closed {
				t.Errorf("Write(%q) = %q, %v", in, out, fault)
			}
		}
		if out, fault := s.Close(); out != "" || fault != closed {
			t.Errorf("Close = %q, %v", out, fault)
		}
	}
}

func TestFaults(t *testing.T) {
	for i, c := range []struct {
		from, to api.Encoding
		written  []string // what is written without a fault
		last     string
		fault    api.Fault
	}{
		{utf8Bytes, utf8Bytes, []string{"AB"}, "C\xFF", api.Fault{Errno: api.ErrEncoding, At: 3}},
		{utf8Bytes, utf8Bytes, []string{"AB", "\xE2\x82", "\xACD", "\xE2"}, "A", api.Fault{Errno: api.ErrEncoding, At: 6}},
		{utf8Bytes, few(), []string{"A\xC3"}, "\xAA", api.Fault{Errno: api.ErrUnmapped, At: 1}},
		{utf8Bytes, few(), []string{"A\xC3"}, "\xA9\xC3\xAA\xFF", api.Fault{Errno: api.ErrUnmapped, At: 3}},
		{big, utf8Bytes, []string{"\x00A", "\xD8", "\x00"}, "\x00", api.Fault{Errno: api.ErrEncoding, At: 2}},
		{little, big, []string{"A\x00\x00\xD8A"}, "A", api.Fault{Errno: api.ErrEncoding, At: 2}},
		{few(), utf8Bytes, []string{"AA", "", "A"}, "\xFF", api.Fault{Errno: api.ErrEncoding, At: 3}},
	} {
		s := open(t, c.from, c.to, api.Fail)
		for _, in := range c.written {
			if _, fault := s.Write(in); fault != (api.Fault{}) {
				t.Errorf("%d: %q: %v", i, in, fault)
			}
		}
		if out, fault := s.Write(c.last); out != "" || fault != c.fault {
			t.Errorf("%d: %q, %v", i, out, fault)
		}
		checkClosed(t, s)
	}
}

func TestFaultsOfClose(t *testing.T) {
	for i, c := range []struct {
		from api.Encoding
		in   string
		at   int
	}{{utf8Bytes, "AB\xE2\x82", 2}, {big, "\x00A\x00", 2}, {little, "\x00\xD8A", 0}, {big, "\x00A\xD8\x00\xDC", 2}} {
		s := open(t, c.from, utf8Bytes, api.Fail)
		if _, fault := s.Write(c.in); fault != (api.Fault{}) {
			t.Error(i, fault)
		}
		if out, fault := s.Close(); out != "" || fault != (api.Fault{Errno: api.ErrEncoding, At: c.at}) {
			t.Errorf("%d: %q, %v", i, out, fault)
		}
		checkClosed(t, s)
	}
}

func TestNilAndZeroStreams(t *testing.T) {
	checkClosed(t, nil)
	checkClosed(t, new(convstream.Stream))
}

// pieces returns the forms and ill-formed parts of s.
func pieces(e api.Encoding, s string) []string {
	var l []string
	for s != "" {
		_, n, ok := convert.Step(e, s)
		kind := "-"
		if ok {
			kind = "+"
		}
		l = append(l, kind+s[:n])
		s = s[n:]
	}
	return l
}

// strings of bytes up to a length.
func stringsOf(bytes string, most int) []string {
	l := []string{""}
	for from := 0; most > 0; most-- {
		end := len(l)
		for _, s := range l[from:end] {
			for i := range len(bytes) {
				l = append(l, s+bytes[i:i+1])
			}
		}
		from = end
	}
	return l
}

// The certain part consists of the pieces that remain, whatever follows.
func TestCertainPart(t *testing.T) {
	for kind, c := range map[int]struct {
		bytes, following string
		most             int
	}{
		api.UTF8:    {"\x41\x80\x8F\x90\x9F\xA0\xBF\xC1\xC2\xE0\xE2\xED\xEF\xF0\xF3\xF4\xF5\xFF", "\x00\x41\x7F\x80\x8F\x90\x9F\xA0\xBF\xC2\xE2\xF0\xFF", 3},
		api.UTF16BE: {"\x00\x41\xD8\xDB\xDC\xDF", "\x00\x41\xD8\xDC\xDF\xE0", 5},
		api.UTF16LE: {"\x00\x41\xD8\xDB\xDC\xDF", "\x00\x41\xD8\xDC\xDF\xE0", 5},
		api.Single:  {"\x00\x41\x80\xE2\xFF", "\x00\x41\xFF", 3},
	} {
		e := few()
		e.Kind = kind
		futures := stringsOf(c.following, 2)
		for _, s := range stringsOf(c.bytes, c.most) {
			now := pieces(e, s)
			certain := len(now)
			for _, future := range futures {
				then := pieces(e, s+future)
				for i := range certain {
					if i >= len(then) || then[i] != now[i] {
						certain = i
						break
					}
				}
			}
			want := s[len(strings.Join(now[:certain], ""))-certain:]
			stream := open(t, e, utf8Bytes, api.Skip)
			if stream.Write(s); stream.Pending() != want {
				t.Fatalf("%d: of %X %X is pending, not %X", kind, s, stream.Pending(), want)
			}
		}
	}
}

// P8.3

// randomBytes returns bytes that are often forms, parts of forms, and halves of pairs.
func randomBytes(r *rand.Rand, most int) string {
	bytes := "\x00\x3F\x41\x41\x41\x80\x82\xA0\xC3\xD8\xDC\xDC\xE2\xED\xF0\xF4\xFF"
	s := make([]byte, r.Intn(most+1))
	for i := range s {
		s[i] = bytes[r.Intn(len(bytes))]
	}
	return string(s)
}

// run writes s in random pieces, and returns all results one after the other and the first fault.
func run(t *testing.T, r *rand.Rand, stream *convstream.Stream, s string) (string, api.Fault) {
	t.Helper()
	var out strings.Builder
	for at := 0; at < len(s); {
		n := min(r.Intn(4), len(s)-at)
		part, fault := stream.Write(s[at : at+n])
		if out.WriteString(part); fault != (api.Fault{}) {
			checkClosed(t, stream)
			return out.String(), fault
		}
		if at += n; len(stream.Pending()) > 3 || !strings.HasSuffix(s[:at], stream.Pending()) {
			t.Fatalf("after %X %X is pending", s[:at], stream.Pending())
		}
	}
	part, fault := stream.Close()
	out.WriteString(part)
	checkClosed(t, stream)
	return out.String(), fault
}

func TestStreamsAgreeWithConvert(t *testing.T) {
	r := rand.New(rand.NewSource(1))
	faults := 0
	for range 40000 {
		l := encodings()
		from, to, policy := l[r.Intn(4)], l[r.Intn(4)], policies[r.Intn(4)]
		s := randomBytes(r, 12)
		out, fault := run(t, r, open(t, from, to, policy), s)
		want, wantFault := convert.Convert(from, to, s, policy)
		if fault != wantFault {
			t.Fatalf("%d to %d, policy %d: %X: %v, not %v", from.Kind, to.Kind, policy, s, fault, wantFault)
		}
		if fault != (api.Fault{}) {
			faults++
			all, _ := convert.Convert(from, to, s, api.Skip)
			if !strings.HasPrefix(all, out) {
				t.Fatalf("%d to %d: %X: %X, not a beginning of %X", from.Kind, to.Kind, s, out, all)
			}
		} else if out != want {
			t.Fatalf("%d to %d, policy %d: %X: %X, not %X", from.Kind, to.Kind, policy, s, out, want)
		}
	}
	if faults < 1000 {
		t.Error(faults)
	}
}

// An input may be long, and may be written at once or byte by byte.
func TestLongInputs(t *testing.T) {
	s := strings.Repeat("A\u00E9\u20AC\U0001F600\xE2\x82", 20000)
	want, _ := convert.Convert(utf8Bytes, big, s, api.Replace)
	for _, size := range []int{len(s), 1, 7} {
		stream := open(t, utf8Bytes, big, api.Replace)
		var out strings.Builder
		for part := range slices.Chunk([]byte(s), size) {
			converted, _ := stream.Write(string(part))
			out.WriteString(converted)
		}
		converted, fault := stream.Close()
		out.WriteString(converted)
		if out.String() != want || fault != (api.Fault{}) {
			t.Error(size, fault)
		}
	}
}
