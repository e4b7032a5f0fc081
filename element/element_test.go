package element_test

import (
	"math"
	"math/rand"
	"slices"
	"strings"
	"testing"

	"unicodetext/api"
	"unicodetext/element"
)

// of returns an element that is not variable.
func of(primary, secondary, tertiary int) api.Element {
	return api.Element{Primary: primary, Secondary: secondary, Tertiary: tertiary}
}

// variable returns an element that is.
func variable(primary, secondary, tertiary int) api.Element {
	e := of(primary, secondary, tertiary)
	e.Variable = true
	return e
}

// invalid holds elements with errors; where both are wrong, the weight out of range counts.
var invalid = []struct {
	e    api.Element
	want api.Errno
}{
	{of(-1, 1, 1), api.ErrRange},
	{of(65536, 1, 1), api.ErrRange},
	{of(1, -1, 1), api.ErrRange},
	{of(1, 65536, 1), api.ErrRange},
	{of(1, 1, -1), api.ErrRange},
	{of(1, 1, 65536), api.ErrRange},
	{of(0, 0, math.MinInt), api.ErrRange},
	{of(1, 0, math.MaxInt), api.ErrRange},
	{variable(0, 1, 65536), api.ErrRange},
	{of(1, 0, 0), api.ErrData},
	{of(1, 0, 1), api.ErrData},
	{of(1, 1, 0), api.ErrData},
	{of(0, 1, 0), api.ErrData},
	{variable(1, 1, 0), api.ErrData},
	{variable(0, 0, 0), api.ErrData},
	{variable(0, 1, 1), api.ErrData},
	{variable(0, 0, 1), api.ErrData},
}

// P42.1

func TestCheck(t *testing.T) {
	for _, c := range invalid {
		if errno := element.Check(c.e); errno != c.want {
			t.Error(c.e, errno)
		}
	}
	for _, e := range []api.Element{of(0, 0, 0), of(0, 0, 1), of(0, 1, 1), of(1, 1, 1), variable(1, 1, 1), of(65535, 65535, 65535), variable(65535, 1, 65535), of(0, 65535, 1), of(0, 0, 65535)} {
		if errno := element.Check(e); errno != api.OK {
			t.Error(e, errno)
		}
	}
	// All combinations of weights that are 0 or not.
	for bits := range 16 {
		weight := func(bit int) int { return bits >> bit & 1 * 7 }
		e := api.Element{Primary: weight(0), Secondary: weight(1), Tertiary: weight(2), Variable: bits&8 != 0}
		want := api.OK
		if e.Primary > e.Secondary || e.Primary > e.Tertiary || e.Secondary > e.Tertiary || e.Variable && e.Primary == 0 {
			want = api.ErrData
		}
		if errno := element.Check(e); errno != want {
			t.Error(e, errno)
		}
	}
}

// P42.2

func TestTextAndParse(t *testing.T) {
	for _, c := range []struct {
		l    []api.Element
		text string
	}{
		{nil, ""},
		{[]api.Element{of(0x10, 0x20, 2)}, "[.0010.0020.0002]"},
		{[]api.Element{variable(0x209, 0x20, 2), of(0, 0, 0), of(0xABCD, 0xEF01, 0xFFFF), of(0, 0x1F, 0x2A)}, "[*0209.0020.0002][.0000.0000.0000][.ABCD.EF01.FFFF][.0000.001F.002A]"},
	} {
		if s, errno := element.Text(c.l); s != c.text || errno != api.OK {
			t.Error(c.l, s, errno)
		}
		if l, errno := element.Parse(c.text); !slices.Equal(l, c.l) || errno != api.OK {
			t.Error(c.text, l, errno)
		}
	}
}

func TestTextErrors(t *testing.T) {
	for _, c := range invalid {
		for _, l := range [][]api.Element{{c.e}, {of(1, 1, 1), c.e}} {
			if s, errno := element.Text(l); s != "" || errno != c.want {
				t.Error(l, s, errno)
			}
		}
	}
	if s, errno := element.Text([]api.Element{of(1, 0, 1), of(-1, 1, 1)}); s != "" || errno != api.ErrData {
		t.Error(s, errno)
	}
	if s, errno := element.Text([]api.Element{of(0, 0, 0), of(-1, 1, 1), of(1, 0, 1)}); s != "" || errno != api.ErrRange {
		t.Error(s, errno)
	}
}

// otherForms are strings that are no notations of elements.
var otherForms = []string{
	" ", "[", "]", "[]", "x", "[.0010.0020.0002", "[.0010.0020.0002]x", "[.0010.0020.0002] [.0010.0020.0002]", " [.0010.0020.0002]", "[.0010.0020.0002] ",
	"[0010.0020.0002]", "[+0010.0020.0002]", "[.0010.0020]", "[.0010.0020.0002.0002]", "[.010.0020.0002]", "[.00010.0020.0002]", "[.10000.0020.002]",
	"[.001a.0020.0002]", "[.0010.002G.0002]", "[.0010.0020.-002]", "[.0010.0020.+002]", "[.0010.0020. 002]", "[.0010*0020.0002]", "[.0010.0020*0002]", "[*.0010.0020.0002]",
	"(.0010.0020.0002)", "[.0010.0020.0002]]", "[[.0010.0020.0002]", "[.0010.0020.0002]\n", "[.0010,0020,0002]", "[.....0020.0002]", "[.0010.0020.0002][.0010.0020.000]",
	// A form is looked at before what it says.
	"[.0010.0000.0000][", "[*0000.0000.0000]x",
}

func TestParseErrors(t *testing.T) {
	for _, s := range otherForms {
		if l, errno := element.Parse(s); len(l) != 0 || errno != api.ErrSyntax {
			t.Error(s, l, errno)
		}
	}
	for _, s := range []string{"[.0001.0000.0000]", "[.0001.0001.0000]", "[.0000.0001.0000]", "[*0000.0000.0000]", "[.0000.0000.0000][*0000.0001.0001]"} {
		if l, errno := element.Parse(s); len(l) != 0 || errno != api.ErrData {
			t.Error(s, l, errno)
		}
	}
}

// P42.4

// random returns valid elements.
func random(r *rand.Rand) []api.Element {
	var l []api.Element
	for range r.Intn(5) {
		weight := func() int { return 1 + r.Intn(1<<(1+r.Intn(15))) }
		e := of(0, 0, 0)
		switch r.Intn(5) {
		case 0:
			e.Tertiary = weight()
		case 1:
			e.Secondary, e.Tertiary = weight(), weight()
		case 2, 3:
			e = api.Element{Primary: weight(), Secondary: weight(), Tertiary: weight(), Variable: r.Intn(2) == 0}
		}
		l = append(l, e)
	}
	return l
}

func TestRandomElements(t *testing.T) {
	r := rand.New(rand.NewSource(1))
	for range 2000 {
		a, b := random(r), random(r)
		one, errno := element.Text(a)
		if errno != api.OK || len(one) != 17*len(a) {
			t.Fatal(a, one, errno)
		}
		two, _ := element.Text(b)
		both, errno := element.Text(slices.Concat(a, b))
		if errno != api.OK || both != one+two {
			t.Fatal(a, b, both)
		}
		if l, errno := element.Parse(both); errno != api.OK || !slices.Equal(l, slices.Concat(a, b)) {
			t.Fatal(both, l, errno)
		}
	}
}

// A notation that is changed in one byte is that of other elements, or none.
func TestNotationsAreUnique(t *testing.T) {
	s := []byte("[.00A0.0020.0002][*1234.5678.9ABC]")
	for i, b := range s {
		for other := range 256 {
			s[i] = byte(other)
			l, errno := element.Parse(string(s))
			if errno == api.OK {
				if back, _ := element.Text(l); back != string(s) {
					t.Fatalf("%q: %v", s, l)
				}
			}
			if hex := strings.IndexByte("0123456789ABCDEF", byte(other)) >= 0; errno == api.OK && b != byte(other) && !hex && i%17 != 1 {
				t.Fatalf("%q: %v", s, l)
			}
		}
		s[i] = b
	}
}
