package utf16text_test

import (
	"math"
	"math/rand"
	"slices"
	"testing"
	"unicode/utf16"

	"unicodetext/api"
	"unicodetext/utf16text"
)

var policies = []int{api.Fail, api.Replace, api.Skip, api.Escape}

var noFault api.Fault

func ints(s string) []int {
	var l []int
	for _, c := range s {
		l = append(l, int(c))
	}
	return l
}

// P4.1

func TestFormsOfAllScalarValues(t *testing.T) {
	for c := range api.MaxCode + 1 {
		if 0xD800 <= c && c <= 0xDFFF {
			continue
		}
		var want []int
		for _, unit := range utf16.Encode([]rune{rune(c)}) {
			want = append(want, int(unit))
		}
		if got, fault := utf16text.Encode([]int{c}, api.Fail); !slices.Equal(got, want) || fault != noFault {
			t.Fatalf("Encode(%X) = %X, %v", c, got, fault)
		}
		if back, fault := utf16text.Decode(want, api.Fail); !slices.Equal(back, []int{c}) || fault != noFault {
			t.Fatalf("Decode(%X) = %X, %v", want, back, fault)
		}
	}
}

func TestWellFormedTexts(t *testing.T) {
	for _, c := range []struct{ text, units []int }{
		{nil, nil},
		{[]int{0}, []int{0}},
		{[]int{0x1F600}, []int{0xD83D, 0xDE00}},
		{[]int{0x10000, 0x10FFFF}, []int{0xD800, 0xDC00, 0xDBFF, 0xDFFF}},
		{[]int{0xD7FF, 0xE000, 0xFEFF, 0xFFFF, 0x103FF, 0x10400}, []int{0xD7FF, 0xE000, 0xFEFF, 0xFFFF, 0xD800, 0xDFFF, 0xD801, 0xDC00}},
	} {
		for _, policy := range policies {
			if got, fault := utf16text.Encode(c.text, policy); !slices.Equal(got, c.units) || fault != noFault {
				t.Errorf("Encode(%X, %d) = %X, %v", c.text, policy, got, fault)
			}
			if got, fault := utf16text.Decode(c.units, policy); !slices.Equal(got, c.text) || fault != noFault {
				t.Errorf("Decode(%X, %d) = %X, %v", c.units, policy, got, fault)
			}
		}
	}
}

func TestEncodeWithoutForms(t *testing.T) {
	for _, c := range []struct {
		text          []int
		at            int // of the fault
		replace, skip []int
		escape        string
	}{
		{[]int{0xD800}, 0, []int{0xFFFD}, nil, `\u{D800}`},
		{[]int{0xD83D, 0xDE00}, 0, []int{0xFFFD, 0xFFFD}, nil, `\u{D83D}\u{DE00}`},
		{[]int{0x41, -1, 0x42}, 1, []int{0x41, 0xFFFD, 0x42}, []int{0x41, 0x42}, `A\u{}B`},
		{[]int{0x41, 0x42, 0x110000, 0xDFFF}, 2, []int{0x41, 0x42, 0xFFFD, 0xFFFD}, []int{0x41, 0x42}, `AB\u{}\u{DFFF}`},
		{[]int{math.MinInt, math.MaxInt, 1 << 32}, 0, []int{0xFFFD, 0xFFFD, 0xFFFD}, nil, `\u{}\u{}\u{}`},
	} {
		for policy, want := range map[int][]int{api.Replace: c.replace, api.Skip: c.skip, api.Escape: ints(c.escape)} {
			if got, fault := utf16text.Encode(c.text, policy); !slices.Equal(got, want) || fault != noFault {
				t.Errorf("Encode(%X, %d) = %X, %v", c.text, policy, got, fault)
			}
		}
		if got, fault := utf16text.Encode(c.text, api.Fail); len(got) != 0 || fault != (api.Fault{Errno: api.ErrEncoding, At: c.at}) {
			t.Errorf("Encode(%X, Fail) = %X, %v", c.text, got, fault)
		}
	}
	if got, fault := utf16text.Encode([]int{0x1F600, -1}, api.Fail); len(got) != 0 || fault != (api.Fault{Errno: api.ErrEncoding, At: 1}) {
		t.Error("the position of a fault is not an index of the text:", got, fault)
	}
}

func TestDecodeIllFormedUnits(t *testing.T) {
	for _, c := range []struct {
		units         []int
		at            int // of the fault
		replace, skip []int
		escape        string
	}{
		{[]int{0xD83D}, 0, []int{0xFFFD}, nil, `\u{D83D}`},
		{[]int{0xDE00}, 0, []int{0xFFFD}, nil, `\u{DE00}`},
		{[]int{0xDE00, 0xD83D}, 0, []int{0xFFFD, 0xFFFD}, nil, `\u{DE00}\u{D83D}`},
		{[]int{0xD83D, 0xD83D, 0xDE00}, 0, []int{0xFFFD, 0x1F600}, []int{0x1F600}, "\\u{D83D}\U0001F600"},
		{[]int{0xD83D, 0xDE00, 0xDE00}, 2, []int{0x1F600, 0xFFFD}, []int{0x1F600}, "\U0001F600\\u{DE00}"},
		{[]int{0xD83D, 0x41}, 0, []int{0xFFFD, 0x41}, []int{0x41}, `\u{D83D}A`},
		{[]int{0x41, 0xDBFF, 0xE000}, 1, []int{0x41, 0xFFFD, 0xE000}, []int{0x41, 0xE000}, "A\\u{DBFF}\uE000"},
		{[]int{0xD7FF, 0xDC00}, 1, []int{0xD7FF, 0xFFFD}, []int{0xD7FF}, "\uD7FF\\u{DC00}"},
		{[]int{0x10000}, 0, []int{0xFFFD}, nil, `\u{10000}`},
		{[]int{0x1F600, 0x42}, 0, []int{0xFFFD, 0x42}, []int{0x42}, `\u{1F600}B`},
		{[]int{0x41, -1, 0x110000}, 1, []int{0x41, 0xFFFD, 0xFFFD}, []int{0x41}, `A\u{}\u{}`},
		{[]int{0xD83D, 0xDE00 + 1<<32}, 0, []int{0xFFFD, 0xFFFD}, nil, `\u{D83D}\u{}`},
		{[]int{0xD800, 0xDBFF}, 0, []int{0xFFFD, 0xFFFD}, nil, `\u{D800}\u{DBFF}`},
		{[]int{0xD801, 0xD800 + 0x400 - 1 + 0x400 + 1}, 0, []int{0xFFFD, 0xE000}, []int{0xE000}, "\\u{D801}\uE000"},
		{[]int{math.MinInt, math.MaxInt}, 0, []int{0xFFFD, 0xFFFD}, nil, `\u{}\u{}`},
		{[]int{0xD800 + 1<<54, 0xDC00}, 0, []int{0xFFFD, 0xFFFD}, nil, `\u{}\u{DC00}`},
	} {
		for policy, want := range map[int][]int{api.Replace: c.replace, api.Skip: c.skip, api.Escape: ints(c.escape)} {
			if got, fault := utf16text.Decode(c.units, policy); !slices.Equal(got, want) || fault != noFault {
				t.Errorf("Decode(%X, %d) = %X, %v", c.units, policy, got, fault)
			}
		}
		if got, fault := utf16text.Decode(c.units, api.Fail); len(got) != 0 || fault != (api.Fault{Errno: api.ErrEncoding, At: c.at}) {
			t.Errorf("Decode(%X, Fail) = %X, %v", c.units, got, fault)
		}
	}
}

func TestAllPairsOfEnds(t *testing.T) {
	ends := []int{0, 0x41, 0xD7FF, 0xD800, 0xD801, 0xDBFF, 0xDC00, 0xDC01, 0xDFFF, 0xE000, 0xFFFF}
	for _, a := range ends {
		for _, b := range ends {
			var want []int
			for _, c := range utf16.Decode([]uint16{uint16(a), uint16(b)}) {
				want = append(want, int(c))
			}
			if got, fault := utf16text.Decode([]int{a, b}, api.Replace); !slices.Equal(got, want) || fault != noFault {
				t.Errorf("%X %X: %X, %v", a, b, got, fault)
			}
		}
	}
}

func TestUnknownPolicies(t *testing.T) {
	for _, policy := range []int{0, -1, 5, math.MinInt, math.MaxInt} {
		for _, l := range [][]int{nil, {0x41}, {0x41, -1}} {
			if got, fault := utf16text.Encode(l, policy); len(got) != 0 || fault != (api.Fault{Errno: api.ErrKind}) {
				t.Errorf("Encode(%X, %d) = %X, %v", l, policy, got, fault)
			}
			if got, fault := utf16text.Decode(l, policy); len(got) != 0 || fault != (api.Fault{Errno: api.ErrKind}) {
				t.Errorf("Decode(%X, %d) = %X, %v", l, policy, got, fault)
			}
		}
	}
}

// P4.2

func TestBytes(t *testing.T) {
	for _, c := range []struct {
		units     []int
		big, mark bool
		want      string
	}{
		{nil, true, false, ""},
		{nil, false, false, ""},
		{nil, true, true, "\xfe\xff"},
		{nil, false, true, "\xff\xfe"},
		{[]int{0x0041, 0xD83D, 0xFFFF, 0}, true, false, "\x00\x41\xd8\x3d\xff\xff\x00\x00"},
		{[]int{0x0041, 0xD83D, 0xFFFF, 0}, false, false, "\x41\x00\x3d\xd8\xff\xff\x00\x00"},
		{[]int{0x1234}, true, true, "\xfe\xff\x12\x34"},
		{[]int{0x1234}, false, true, "\xff\xfe\x34\x12"},
		{[]int{0xFEFF}, true, true, "\xfe\xff\xfe\xff"},
	} {
		if got, fault := utf16text.Bytes(c.units, c.big, c.mark); got != c.want || fault != noFault {
			t.Errorf("Bytes(%X, %t, %t) = %X, %v", c.units, c.big, c.mark, got, fault)
		}
	}
}

func TestBytesRejects(t *testing.T) {
	for _, c := range []struct {
		units []int
		at    int
	}{
		{[]int{-1}, 0},
		{[]int{0x10000}, 0},
		{[]int{0x41, 0xFFFF, 0x10000, -1}, 2},
		{[]int{0, 0, math.MaxInt}, 2},
		{[]int{0, math.MinInt}, 1},
	} {
		for _, big := range []bool{false, true} {
			for _, mark := range []bool{false, true} {
				if got, fault := utf16text.Bytes(c.units, big, mark); got != "" || fault != (api.Fault{Errno: api.ErrRange, At: c.at}) {
					t.Errorf("Bytes(%X, %t, %t) = %X, %v", c.units, big, mark, got, fault)
				}
			}
		}
	}
}

func TestUnits(t *testing.T) {
	for _, c := range []struct {
		s     string
		big   bool
		want  []int
		order bool
	}{
		{"", true, nil, true},
		{"", false, nil, false},
		{"\x12\x34", true, []int{0x1234}, true},
		{"\x12\x34", false, []int{0x3412}, false},
		{"\xfe\xff", true, nil, true},
		{"\xfe\xff", false, nil, true},
		{"\xff\xfe", true, nil, false},
		{"\xff\xfe", false, nil, false},
		{"\xfe\xff\x12\x34", true, []int{0x1234}, true},
		{"\xfe\xff\x12\x34", false, []int{0x1234}, true},
		{"\xff\xfe\x12\x34", true, []int{0x3412}, false},
		{"\xff\xfe\x12\x34", false, []int{0x3412}, false},
		{"\xfe\xff\xfe\xff\xff\xfe", true, []int{0xFEFF, 0xFFFE}, true},
		{"\x00\x41\xfe\xff\xff\xfe", true, []int{0x41, 0xFEFF, 0xFFFE}, true},
		{"\xd8\x3d\xde\x00", true, []int{0xD83D, 0xDE00}, true},
	} {
		if got, order, fault := utf16text.Units(c.s, c.big); !slices.Equal(got, c.want) || order != c.order || fault != noFault {
			t.Errorf("Units(%X, %t) = %X, %t, %v", c.s, c.big, got, order, fault)
		}
	}
}

func TestUnitsRejectsHalves(t *testing.T) {
	for _, s := range []string{"a", "\xfe", "\x00\x41\x00", "\xfe\xff\x00", "\xff\xfe\x00\x41\x00"} {
		for _, big := range []bool{false, true} {
			if got, order, fault := utf16text.Units(s, big); len(got) != 0 || order || fault != (api.Fault{Errno: api.ErrEncoding, At: len(s) - 1}) {
				t.Errorf("Units(%X, %t) = %X, %t, %v", s, big, got, order, fault)
			}
		}
	}
}

// P4.3

func TestDecodeUndoesEncode(t *testing.T) {
	r := rand.New(rand.NewSource(1))
	for range 3000 {
		text := make([]int, r.Intn(10))
		for i := range text {
			for text[i] = r.Intn(1 << (1 + r.Intn(21))); text[i] > api.MaxCode || 0xD800 <= text[i] && text[i] <= 0xDFFF; {
				text[i] = r.Intn(api.MaxCode + 1)
			}
		}
		for _, policy := range policies {
			units, fault := utf16text.Encode(text, policy)
			if fault != noFault {
				t.Fatal(text, policy, fault)
			}
			if back, fault := utf16text.Decode(units, policy); !slices.Equal(back, text) || fault != noFault {
				t.Fatal(text, policy, back, fault)
			}
		}
	}
}

// randomUnits returns units with many surrogates, and sometimes other numbers.
func randomUnits(r *rand.Rand, others bool) []int {
	units := make([]int, r.Intn(8))
	for i := range units {
		units[i] = []int{r.Intn(0x10000), 0xD800 + r.Intn(0x400), 0xDC00 + r.Intn(0x400), 0xFEFF, 0xFFFE}[r.Intn(5)]
		if others && r.Intn(8) == 0 {
			units[i] = []int{-1, 0x10000, 0x110000}[r.Intn(3)]
		}
	}
	return units
}

func TestUnitsUndoesBytesWithMark(t *testing.T) {
	r := rand.New(rand.NewSource(2))
	for range 3000 {
		units := randomUnits(r, false)
		for _, order := range []bool{false, true} {
			s, fault := utf16text.Bytes(units, order, true)
			if fault != noFault || len(s) != 2*len(units)+2 {
				t.Fatal(units, fault)
			}
			for _, big := range []bool{false, true} {
				if back, got, fault := utf16text.Units(s, big); !slices.Equal(back, units) || got != order || fault != noFault {
					t.Fatal(units, order, big, back, got, fault)
				}
			}
		}
	}
}

func TestDecodingDistributes(t *testing.T) {
	r := rand.New(rand.NewSource(3))
	for range 3000 {
		units := randomUnits(r, true)
		for at := range units {
			if at > 0 && units[at-1]>>10 == 0xD800>>10 && units[at]>>10 == 0xDC00>>10 {
				continue
			}
			for _, policy := range []int{api.Replace, api.Skip, api.Escape} {
				whole, _ := utf16text.Decode(units, policy)
				first, _ := utf16text.Decode(units[:at], policy)
				second, _ := utf16text.Decode(units[at:], policy)
				if !slices.Equal(whole, slices.Concat(first, second)) {
					t.Fatalf("%X at %d with %d: %X", units, at, policy, whole)
				}
			}
		}
	}
}

func TestArgumentsStay(t *testing.T) {
	l := []int{0x41, 0xD83D, 0xDE00, 0x1F600, -1, 0xDC00}
	before := slices.Clone(l)
	for _, policy := range policies {
		utf16text.Encode(l, policy)
		utf16text.Decode(l, policy)
	}
	utf16text.Bytes(l[:3], true, true)
	if !slices.Equal(l, before) {
		t.Error(l)
	}
	plain := []int{0x41, 0x42}
	for _, f := range []func([]int, int) ([]int, api.Fault){utf16text.Encode, utf16text.Decode} {
		got, _ := f(plain, api.Fail)
		got[0] = 0
		_ = append(got[:1], 0)
	}
	if !slices.Equal(plain, []int{0x41, 0x42}) {
		t.Error("results share memory with arguments")
	}
}
