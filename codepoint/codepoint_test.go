package codepoint

import (
	"fmt"
	"math"
	"slices"
	"testing"

	"unicodetext/api"
)

// outside holds numbers that are no code points.
var outside = []int{math.MinInt, -0x10000, -0x2802, -2, -1, 0x110000, 0x11D800, 0x11FFFE, 0x11FFFF, 1 << 32, 1<<32 + 0x41, math.MaxInt}

// P1.1

func TestKindsOfCodePoints(t *testing.T) {
	for _, c := range []struct {
		c                                      int
		valid, scalar, surrogate, noncharacter bool
		plane                                  int
	}{
		{0, true, true, false, false, 0},
		{0x41, true, true, false, false, 0},
		{0xD7FF, true, true, false, false, 0},
		{0xD800, true, false, true, false, 0},
		{0xDBFF, true, false, true, false, 0},
		{0xDC00, true, false, true, false, 0},
		{0xDFFF, true, false, true, false, 0},
		{0xE000, true, true, false, false, 0},
		{0xFDCF, true, true, false, false, 0},
		{0xFDD0, true, true, false, true, 0},
		{0xFDEF, true, true, false, true, 0},
		{0xFDF0, true, true, false, false, 0},
		{0xFFFD, true, true, false, false, 0},
		{0xFFFE, true, true, false, true, 0},
		{0xFFFF, true, true, false, true, 0},
		{0x10000, true, true, false, false, 1},
		{0x1D800, true, true, false, false, 1},
		{0x1FDD0, true, true, false, false, 1},
		{0x1FFFD, true, true, false, false, 1},
		{0x1FFFE, true, true, false, true, 1},
		{0x1FFFF, true, true, false, true, 1},
		{0x20000, true, true, false, false, 2},
		{0x100000, true, true, false, false, 16},
		{0x10FFFD, true, true, false, false, 16},
		{0x10FFFE, true, true, false, true, 16},
		{0x10FFFF, true, true, false, true, 16},
	} {
		if Valid(c.c) != c.valid || Scalar(c.c) != c.scalar || Surrogate(c.c) != c.surrogate || Noncharacter(c.c) != c.noncharacter {
			t.Errorf("%X: %t %t %t %t", c.c, Valid(c.c), Scalar(c.c), Surrogate(c.c), Noncharacter(c.c))
		}
		if Plane(c.c) != c.plane {
			t.Errorf("Plane(%X) = %d", c.c, Plane(c.c))
		}
	}
}

func TestNumbersThatAreNoCodePoints(t *testing.T) {
	for _, c := range outside {
		if Valid(c) || Scalar(c) || Surrogate(c) || Noncharacter(c) || Plane(c) != -1 || Hex(c) != "" {
			t.Errorf("%d counts as a code point: %t %t %t %t %d %q", c, Valid(c), Scalar(c), Surrogate(c), Noncharacter(c), Plane(c), Hex(c))
		}
	}
}

func TestCountsOfKinds(t *testing.T) {
	var valid, scalar, surrogate, noncharacter int
	planes := map[int]int{}
	for c := -0x20000; c <= 0x130000; c++ {
		count(Valid(c), &valid)
		count(Scalar(c), &scalar)
		count(Surrogate(c), &surrogate)
		count(Noncharacter(c), &noncharacter)
		planes[Plane(c)]++
		if Valid(c) != (Scalar(c) || Surrogate(c)) || Scalar(c) && Surrogate(c) {
			t.Fatalf("%X is not exactly one of a scalar value and a surrogate", c)
		}
	}
	if valid != 1114112 || scalar != 1112064 || surrogate != 2048 || noncharacter != 66 {
		t.Error(valid, scalar, surrogate, noncharacter)
	}
	for plane := range 17 {
		if planes[plane] != 65536 {
			t.Errorf("plane %d has %d code points", plane, planes[plane])
		}
	}
	if len(planes) != 18 || planes[-1] == 0 {
		t.Error("other planes than 0 to 16 and -1")
	}
}

func count(holds bool, n *int) {
	if holds {
		*n++
	}
}

// P1.2

func TestHex(t *testing.T) {
	for _, c := range []struct {
		c    int
		want string
	}{
		{0, "0000"},
		{9, "0009"},
		{0xA, "000A"},
		{65, "0041"},
		{0x34F, "034F"},
		{0xFFF, "0FFF"},
		{0x1000, "1000"},
		{0xD800, "D800"},
		{0xFFFD, "FFFD"},
		{0xFFFF, "FFFF"},
		{0x10000, "10000"},
		{0xABCDE, "ABCDE"},
		{0xFFFFF, "FFFFF"},
		{0x100000, "100000"},
		{0x10FFFF, "10FFFF"},
	} {
		if got := Hex(c.c); got != c.want {
			t.Errorf("Hex(%d) = %q, not %q", c.c, got, c.want)
		}
	}
}

func TestParse(t *testing.T) {
	for _, c := range []struct {
		s    string
		want int
	}{
		{"0000", 0},
		{"0041", 65},
		{"034F", 0x34F},
		{"DFFF", 0xDFFF},
		{"FFFE", 0xFFFE},
		{"10000", 0x10000},
		{"ABCDE", 0xABCDE},
		{"10FFFF", 0x10FFFF},
	} {
		if got, errno := Parse(c.s); got != c.want || errno != api.OK {
			t.Errorf("Parse(%q) = %X, %d", c.s, got, errno)
		}
	}
}

func TestParseRejects(t *testing.T) {
	for _, s := range []string{
		"", "0", "41", "041", "00041", "000041", "010000", "0000041", "00000000041",
		"110000", "1FFFFF", "FFFFFF", "1000000", "10FFFF0", "100000041", "10000000000000041",
		"004a", "00e9", "004G", "004g", "004@", "004/", "004:", "004`",
		" 0041", "0041 ", "0041\n", "\x000041", "+041", "-041", "+0041", "-0041", "0x41", "0X41", "U+0041", "00_41",
		"00\xff1", "004\xc3\x81", "００４１", "é041",
	} {
		if got, errno := Parse(s); got != 0 || errno != api.ErrSyntax {
			t.Errorf("Parse(%q) = %X, %d", s, got, errno)
		}
	}
}

func TestParseTriesEveryByte(t *testing.T) {
	for at := range 4 {
		for b := range 256 {
			s := []byte("1111")
			s[at] = byte(b)
			checkParse(t, string(s))
		}
	}
}

func TestParseTriesEveryLength(t *testing.T) {
	level := []string{""}
	for range 8 {
		var longer []string
		for _, s := range level {
			checkParse(t, s)
			for _, digit := range []string{"0", "1", "F", "a"} {
				longer = append(longer, s+digit)
			}
		}
		level = longer
	}
}

// checkParse holds Parse against the library's number formatting: of all numbers only the one that s denotes can be printed as s.
func checkParse(t *testing.T, s string) {
	t.Helper()
	var c int
	_, err := fmt.Sscanf(s, "%X", &c)
	ok := err == nil && 0 <= c && c <= 0x10FFFF && fmt.Sprintf("%04X", c) == s
	got, errno := Parse(s)
	if ok && (got != c || errno != api.OK) || !ok && (got != 0 || errno != api.ErrSyntax) {
		t.Errorf("Parse(%q) = %X, %d", s, got, errno)
	}
}

// P1.3

func TestCompareAndEqual(t *testing.T) {
	for _, c := range []struct {
		a, b []int
		want int
	}{
		{nil, nil, 0},
		{nil, []int{}, 0},
		{nil, []int{0}, -1},
		{nil, []int{math.MinInt}, -1},
		{[]int{1}, []int{1}, 0},
		{[]int{1, 2}, []int{1, 2}, 0},
		{[]int{1}, []int{1, 0}, -1},
		{[]int{1}, []int{1, -1}, -1},
		{[]int{1, 2}, []int{1, 3}, -1},
		{[]int{2}, []int{1, 9}, 1},
		{[]int{9}, []int{10}, -1},
		{[]int{0xFFFF}, []int{0x10000}, -1},
		{[]int{-5}, []int{1 << 40}, -1},
		{[]int{1 << 32}, []int{0}, 1},
		{[]int{math.MinInt}, []int{math.MaxInt}, -1},
		{[]int{math.MinInt}, []int{1}, -1},
		{[]int{math.MaxInt}, []int{-1}, 1},
		{[]int{0xE9}, []int{0x65, 0x301}, 1},
	} {
		if got := Compare(c.a, c.b); got != c.want {
			t.Errorf("Compare(%v, %v) = %d", c.a, c.b, got)
		}
		if got := Compare(c.b, c.a); got != -c.want {
			t.Errorf("Compare(%v, %v) = %d", c.b, c.a, got)
		}
		if Equal(c.a, c.b) != (c.want == 0) || Equal(c.b, c.a) != (c.want == 0) {
			t.Errorf("Equal(%v, %v) = %t", c.a, c.b, Equal(c.a, c.b))
		}
	}
}

func TestCompareLooksAtTheLastElement(t *testing.T) {
	a := make([]int, 70000)
	b := slices.Clone(a)
	if Compare(a, b) != 0 || !Equal(a, b) {
		t.Error("long sequences that are the same differ")
	}
	b[len(b)-1] = 1
	if Compare(a, b) != -1 || Compare(b, a) != 1 || Equal(a, b) {
		t.Error("the last element is not compared")
	}
	if Compare(a[1:], a) != -1 || Compare(a, a[1:]) != 1 || Equal(a, a[1:]) {
		t.Error("a proper prefix is not less")
	}
}

func TestCompareLeavesItsArguments(t *testing.T) {
	a, b := []int{3, 1, 2}, []int{3, 1, 1}
	Compare(a, b)
	Equal(a, b)
	if !slices.Equal(a, []int{3, 1, 2}) || !slices.Equal(b, []int{3, 1, 1}) {
		t.Error(a, b)
	}
}

// P1.4

func TestParseAndHexAreInverse(t *testing.T) {
	for c := range api.MaxCode + 1 {
		s := Hex(c)
		if s != fmt.Sprintf("%04X", c) {
			t.Fatalf("Hex(%d) = %q", c, s)
		}
		if got, errno := Parse(s); got != c || errno != api.OK {
			t.Fatalf("Parse(%q) = %X, %d", s, got, errno)
		}
	}
}

func TestCompareIsATotalOrder(t *testing.T) {
	all := sequences([]int{math.MinInt, -1, 0, 0x41, math.MaxInt}, 3)
	for _, a := range all {
		for _, b := range all {
			ab := Compare(a, b)
			same := slices.Equal(a, b)
			if ab < -1 || ab > 1 || ab != -Compare(b, a) || (ab == 0) != same || Equal(a, b) != same {
				t.Fatal(a, b, ab, Compare(b, a), Equal(a, b))
			}
			for _, c := range all {
				if ab <= 0 && Compare(b, c) <= 0 && Compare(a, c) > 0 {
					t.Fatal("not transitive:", a, b, c)
				}
			}
		}
	}
}

// sequences returns all sequences of at most most of these elements.
func sequences(elements []int, most int) [][]int {
	all := [][]int{nil}
	level := all
	for range most {
		var longer [][]int
		for _, s := range level {
			for _, e := range elements {
				longer = append(longer, append(slices.Clone(s), e))
			}
		}
		level = longer
		all = append(all, level...)
	}
	return all
}
