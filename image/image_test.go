package image_test

import (
	"encoding/binary"
	"hash/fnv"
	"math"
	"math/rand"
	"slices"
	"strings"
	"testing"

	"unicodetext/api"
	"unicodetext/image"
	"unicodetext/multistage"
	"unicodetext/seqpool"
)

// bytes returns what the library writes for a list.
func bytes(l []int) string {
	out := binary.AppendVarint(nil, int64(len(l)))
	for _, n := range l {
		out = binary.AppendVarint(out, int64(n))
	}
	return string(out)
}

// randomList returns numbers of all sizes.
func randomList(r *rand.Rand) []int {
	l := make([]int, r.Intn(12))
	for i := range l {
		l[i] = int(r.Uint64()) >> r.Intn(64)
	}
	return l
}

func table(t testing.TB, l []api.Span, widths ...int) api.Table {
	t.Helper()
	table, errno := multistage.Build(l, widths)
	if errno != api.OK {
		t.Fatal(l, widths, errno)
	}
	return table
}

func sameTables(a, b api.Table) bool {
	return slices.Equal(a.Widths, b.Widths) && slices.EqualFunc(a.Stages, b.Stages, func(x, y []int) bool { return slices.Equal(x, y) })
}

func samePools(a, b api.Pool) bool {
	return slices.Equal(a.Codes, b.Codes) && slices.Equal(a.Starts, b.Starts) && slices.Equal(a.Lengths, b.Lengths)
}

// sealed returns the sealed bytes of lists.
func sealed(lists ...[]int) string {
	body := ""
	for _, l := range lists {
		body += bytes(l)
	}
	return image.Seal(body)
}

// P15.1

func TestSum(t *testing.T) {
	for s, want := range map[string]uint32{"": 2166136261, "a": 3826002220} {
		if got := image.Sum(s); got != want {
			t.Errorf("%q: %d", s, got)
		}
	}
	r := rand.New(rand.NewSource(1))
	for range 200 {
		b := make([]byte, r.Intn(100))
		r.Read(b)
		sum := fnv.New32a()
		sum.Write(b)
		if got := image.Sum(string(b)); got != sum.Sum32() {
			t.Fatal(b, got)
		}
	}
}

func TestIntsAndReadInts(t *testing.T) {
	for _, c := range []struct {
		l    []int
		want string
	}{
		{nil, "\x00"},
		{[]int{1, -1}, "\x04\x02\x01"},
		{[]int{0}, "\x02\x00"},
		{[]int{63, -64, 64, -65}, "\x08\x7E\x7F\x80\x01\x81\x01"},
		{[]int{math.MaxInt}, "\x02\xFE\xFF\xFF\xFF\xFF\xFF\xFF\xFF\xFF\x01"},
		{[]int{math.MinInt}, "\x02\xFF\xFF\xFF\xFF\xFF\xFF\xFF\xFF\xFF\x01"},
		{[]int{math.MaxInt >> 1, math.MinInt >> 1}, "\x04\xFE\xFF\xFF\xFF\xFF\xFF\xFF\xFF\x7F\xFF\xFF\xFF\xFF\xFF\xFF\xFF\xFF\x7F"},
		{make([]int, 64), "\x80\x01" + strings.Repeat("\x00", 64)},
	} {
		if got := image.Ints(c.l); got != c.want {
			t.Errorf("%d: %X", c.l, got)
		}
		for _, rest := range []string{"", "\x00", "\x80", "rest"} {
			if l, n, errno := image.ReadInts(c.want + rest); !slices.Equal(l, c.l) || n != len(c.want) || errno != api.OK {
				t.Errorf("%X: %d %d %v", c.want, l, n, errno)
			}
		}
	}
	r := rand.New(rand.NewSource(2))
	for range 2000 {
		l := randomList(r)
		s := image.Ints(l)
		if s != bytes(l) {
			t.Fatal(l, s)
		}
		if back, n, errno := image.ReadInts(s + "x"); !slices.Equal(back, l) || n != len(s) || errno != api.OK {
			t.Fatal(l, back, n, errno)
		}
		for n := range len(s) {
			if l, n, errno := image.ReadInts(s[:n]); len(l) != 0 || n != 0 || errno != api.ErrSize && errno != api.ErrRange {
				t.Fatal(l, n, errno)
			}
		}
	}
}

func TestReadIntsErrors(t *testing.T) {
	nine := strings.Repeat("\x80", 9)
	for _, c := range []struct {
		s    string
		want api.Errno
	}{
		{"", api.ErrSize},
		{"\x80", api.ErrSize},
		{"\x84\x80", api.ErrSize},
		{nine, api.ErrSize},
		{"\x04\x02\x80", api.ErrSize},
		{"\x04\x80\x01", api.ErrSize},
		{"\x02" + nine, api.ErrSize},
		// The length.
		{"\x80\x00", api.ErrSyntax},
		{"\x81\x80\x00", api.ErrSyntax},
		{nine + "\x00", api.ErrSyntax},
		{nine + "\x02", api.ErrSyntax},
		{nine + "\x80", api.ErrSyntax},
		{nine + "\x81", api.ErrSyntax},
		{nine + "\x81\x01", api.ErrSyntax},
		{nine + "\x7F", api.ErrSyntax},
		{nine + "\x01", api.ErrRange},
		{"\x01", api.ErrRange},
		{"\x01\x00\x00", api.ErrRange},
		{"\x02", api.ErrRange},
		{"\x04\x00", api.ErrRange},
		{"\x04\x80", api.ErrRange},
		{"\xFE\xFF\xFF\xFF\xFF\xFF\xFF\xFF\xFF\x01\x00", api.ErrRange},
		{"\xFF\xFF\xFF\xFF\xFF\xFF\xFF\xFF\xFF\x01\x00", api.ErrRange},
		// The elements: number by number, and group by group.
		{"\x02\x80\x00", api.ErrSyntax},
		{"\x04\x80\x00\x80", api.ErrSyntax},
		{"\x04\x00\x80\x80\x00", api.ErrSyntax},
		{"\x02" + nine + "\x00", api.ErrSyntax},
		{"\x02" + nine + "\x03", api.ErrSyntax},
		{"\x02" + nine + "\x81", api.ErrSyntax},
		{"\x04" + nine + "\x80" + "\x80", api.ErrSyntax},
	} {
		if l, n, errno := image.ReadInts(c.s); errno != c.want || len(l) != 0 || n != 0 {
			t.Errorf("%X: %v, not %v", c.s, errno, c.want)
		}
	}
	if l, n, errno := image.ReadInts("\x02" + nine + "\x01"); !slices.Equal(l, []int{1 << 62}) || n != 11 || errno != api.OK {
		t.Error(l, n, errno)
	}
}

// P15.2

func TestSealAndOpen(t *testing.T) {
	if s := image.Seal(""); s != "\x81\x1C\x9D\xC5" {
		t.Errorf("%X", s)
	}
	if s := image.Seal("a"); s != "\xE4\x0C\x29\x2Ca" {
		t.Errorf("%X", s)
	}
	for _, s := range []string{"", "\x81", "\x81\x1C\x9D", "abc"} {
		if body, errno := image.Open(s); body != "" || errno != api.ErrSize {
			t.Errorf("%X: %v", s, errno)
		}
	}
	for _, s := range []string{"\x00\x00\x00\x00", "\xC5\x9D\x1C\x81", "\xE4\x0C\x29\x2C", "\x81\x1C\x9D\xC5a", "\xE4\x0C\x29\x2Cb"} {
		if body, errno := image.Open(s); body != "" || errno != api.ErrSum {
			t.Errorf("%X: %v", s, errno)
		}
	}
	for _, body := range []string{"", "a", "\x00", "\xFF\xFE" + strings.Repeat("x", 1000)} {
		if got, errno := image.Open(image.Seal(body)); got != body || errno != api.OK {
			t.Errorf("%.20q: %v", body, errno)
		}
	}
}

// P15.3

func TestTableAndReadTable(t *testing.T) {
	spans := []api.Span{{Lo: 0x41, Hi: 0x5A, Value: 1}, {Lo: 0x61, Hi: 0x7A, Value: -7}, {Lo: 0x10FFFF, Hi: 0x10FFFF, Value: math.MinInt}}
	for _, given := range []api.Table{table(t, nil, 8, 4), table(t, spans, 9), table(t, spans, 7, 5), table(t, spans, 1, 12, 3), table(t, spans, 5, 5, 6)} {
		want := sealed(append([][]int{given.Widths}, given.Stages...)...)
		s, errno := image.Table(given)
		if s != want || errno != api.OK {
			t.Fatal(given.Widths, errno)
		}
		if back, errno := image.ReadTable(s); !sameTables(back, given) || errno != api.OK {
			t.Fatal(given.Widths, errno)
		}
	}
	bad := table(t, spans, 8, 4)
	bad.Stages[2] = append(bad.Stages[2], 0)
	for _, given := range []api.Table{{}, {Widths: []int{8, 4}}, {Widths: []int{9}, Stages: [][]int{make([]int, 2176)}}, bad} {
		if s, errno := image.Table(given); s != "" || errno != api.ErrData {
			t.Error(given.Widths, errno)
		}
	}
}

func TestReadTableErrors(t *testing.T) {
	good := table(t, []api.Span{{Lo: 5, Hi: 9, Value: 3}}, 8, 4)
	list := image.Ints
	other := slices.Repeat([]int{1}, 272) // indices of a block that does not exist
	for _, c := range []struct {
		what, s string
		want    api.Errno
	}{
		{"nothing", "", api.ErrSize},
		{"too few bytes", "abc", api.ErrSize},
		{"a wrong sum", "\x00\x00\x00\x00" + list(nil), api.ErrSum},
		{"no list", image.Seal(""), api.ErrSize},
		{"an incomplete number", image.Seal("\x80"), api.ErrSize},
		{"a last group 0", image.Seal("\x80\x00"), api.ErrSyntax},
		{"too great a length", image.Seal("\x04\x00"), api.ErrRange},
		{"no stages", sealed([]int{8, 4}), api.ErrSize},
		{"two of three stages", sealed([]int{8, 4}, nil, nil), api.ErrSize},
		{"a third stage with an error", image.Seal(list([]int{8, 4}) + list(nil) + list(nil) + "\x02\x80\x00"), api.ErrSyntax},
		{"a third stage that is too long", image.Seal(list([]int{8, 4}) + list(nil) + list(nil) + "\x04\x00"), api.ErrRange},
		{"four stages", sealed([]int{8, 4}, nil, nil, nil, nil), api.ErrSize},
		{"a byte more", image.Seal(list(good.Widths) + list(good.Stages[0]) + list(good.Stages[1]) + list(good.Stages[2]) + "\x00"), api.ErrSize},
		{"no widths and no stage", sealed(nil), api.ErrSize},
		{"no widths", sealed(nil, nil), api.ErrData},
		{"empty stages", sealed([]int{8, 4}, nil, nil, nil), api.ErrData},
		{"wrong widths", sealed([]int{8, 0}, good.Stages[0], good.Stages[1], good.Stages[2]), api.ErrData},
		{"a stage that is not canonical", sealed(good.Widths, other, good.Stages[1], good.Stages[2]), api.ErrData},
		{"many widths", sealed(make([]int, 100)), api.ErrSize},
	} {
		if got, errno := image.ReadTable(c.s); errno != c.want || !sameTables(got, api.Table{}) {
			t.Errorf("%s: %v, not %v", c.what, errno, c.want)
		}
	}
}

func TestPoolAndReadPool(t *testing.T) {
	for _, given := range []api.Pool{{}, seqpool.Pack([][]int{nil}), seqpool.Pack([][]int{{1, 2, 3}, {2, 3, 4}, {3, 4}}), seqpool.Pack([][]int{{math.MinInt, -1}, {-1, math.MaxInt}})} {
		s, errno := image.Pool(given)
		if s != sealed(given.Codes, given.Starts, given.Lengths) || errno != api.OK {
			t.Fatal(given, errno)
		}
		if back, errno := image.ReadPool(s); !samePools(back, given) || errno != api.OK {
			t.Fatal(given, back, errno)
		}
	}
	for _, given := range []api.Pool{{Starts: []int{0}}, {Codes: []int{1}, Starts: []int{1}, Lengths: []int{1}}, {Starts: []int{-1}, Lengths: []int{0}}} {
		if s, errno := image.Pool(given); s != "" || errno != api.ErrData {
			t.Error(given, errno)
		}
	}
}

func TestReadPoolErrors(t *testing.T) {
	for _, c := range []struct {
		what, s string
		want    api.Errno
	}{
		{"nothing", "", api.ErrSize},
		{"a wrong sum", "\x81\x1C\x9D\xC5\x00\x00\x00", api.ErrSum},
		{"no list", image.Seal(""), api.ErrSize},
		{"two lists", sealed([]int{1}, []int{0}), api.ErrSize},
		{"a third list with an error", image.Seal("\x00\x00\x02\x80\x00"), api.ErrSyntax},
		{"a second list that is too long", image.Seal("\x00\x04\x00"), api.ErrRange},
		{"an error in front of a missing list", image.Seal("\x02\x80\x00"), api.ErrSyntax},
		{"four lists", sealed(nil, nil, nil, nil), api.ErrSize},
		{"four lists that are not valid", sealed(nil, []int{0}, nil, nil), api.ErrSize},
		{"fewer starts", sealed([]int{1}, nil, []int{0}), api.ErrData},
		{"a sequence beyond", sealed([]int{1}, []int{0}, []int{2}), api.ErrData},
		{"a negative start", sealed([]int{1}, []int{-1}, []int{1}), api.ErrData},
	} {
		if got, errno := image.ReadPool(c.s); errno != c.want || !samePools(got, api.Pool{}) {
			t.Errorf("%s: %v, not %v", c.what, errno, c.want)
		}
	}
}

// P15.4

func TestRandomPoolsAndTables(t *testing.T) {
	r := rand.New(rand.NewSource(3))
	for range 300 {
		var l [][]int
		for range r.Intn(8) {
			l = append(l, randomList(r))
		}
		pool := seqpool.Pack(l)
		s, _ := image.Pool(pool)
		if back, errno := image.ReadPool(s); errno != api.OK || !samePools(back, pool) {
			t.Fatal(pool, back, errno)
		}
	}
	for range 10 {
		var spans []api.Span
		for lo := r.Intn(1000); lo < api.MaxCode-2000; lo += 1002 + r.Intn(100000) {
			spans = append(spans, api.Span{Lo: lo, Hi: lo + r.Intn(1000), Value: 1 + r.Intn(300)})
		}
		given := table(t, spans, 3+r.Intn(3), 2+r.Intn(3), 4+r.Intn(4))
		s, _ := image.Table(given)
		if back, errno := image.ReadTable(s); errno != api.OK || !sameTables(back, given) {
			t.Fatal(spans, errno)
		}
	}
}

// What can be read is what is written for the result: no list has other bytes.
func TestOnlyWhatIsWrittenCanBeRead(t *testing.T) {
	r := rand.New(rand.NewSource(4))
	read := 0
	check := func(s string) {
		if l, n, errno := image.ReadInts(s); errno == api.OK {
			read++
			if image.Ints(l) != s[:n] {
				t.Fatalf("%X: %d", s, l)
			}
		}
		sealed := image.Seal(s)
		if p, errno := image.ReadPool(sealed); errno == api.OK {
			read++
			if back, _ := image.Pool(p); back != sealed {
				t.Fatalf("%X: %v", s, p)
			}
		}
	}
	for a := range 256 {
		for b := range 256 {
			check(string([]byte{byte(a), byte(b)}))
			check(string([]byte{0, 2, byte(a), byte(b)}))
		}
	}
	for range 20000 {
		s := make([]byte, r.Intn(14))
		for i := range s {
			s[i] = []byte{0, 1, 2, 4, 0x7F, 0x80, 0x81, 0xFF}[r.Intn(8)]
		}
		check(string(s))
	}
	if read < 1000 {
		t.Error("hardly anything could be read")
	}
}

func TestAChangeOfOneByteIsFound(t *testing.T) {
	for _, body := range []string{"", "a", "unicodetext", "\x00\x00\x00"} {
		s := []byte(image.Seal(body))
		for i, b := range s {
			for change := 1; change < 256; change++ {
				s[i] = b ^ byte(change)
				if got, errno := image.Open(string(s)); got != "" || errno != api.ErrSum {
					t.Fatal(body, i, change, errno)
				}
			}
			s[i] = b
		}
	}
}
