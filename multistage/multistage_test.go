package multistage_test

import (
	"fmt"
	"math"
	"math/rand"
	"slices"
	"testing"

	"unicodetext/api"
	"unicodetext/multistage"
)

const codes = api.MaxCode + 1

// spans returns spans given by their ends and values.
func spans(numbers ...int) []api.Span {
	var l []api.Span
	for i := 0; i < len(numbers); i += 3 {
		l = append(l, api.Span{Lo: numbers[i], Hi: numbers[i+1], Value: numbers[i+2]})
	}
	return l
}

// someSpans is valid spans of different shapes.
var someSpans = [][]api.Span{
	nil,
	spans(0, api.MaxCode, 1),
	spans(0, 0, 7),
	spans(api.MaxCode, api.MaxCode, -1),
	spans(0x41, 0x5A, 1, 0x61, 0x7A, 2),
	spans(0x41, 0x5A, 1, 0x5B, 0x60, 3, 0x61, 0x7A, 1),
	spans(0xFF, 0x100, 5, 0xFFFF, 0x10000, 6, 0x10FFF0, api.MaxCode, 5),
	spans(0, 0x0FFF, math.MaxInt, 0x1000, 0x1FFF, math.MinInt, 0x3000, 0x3FFF, 256, 0x5000, 0x5FFF, 65536),
}

var someWidths = [][]int{{9}, {12}, {8, 4}, {4, 8}, {1, 12}, {4, 4, 4}, {5, 5, 6}, {1, 7, 1}, {12, 1, 3}, {2, 12, 2}, {8, 8}}

// valueOf says by the definition what value a code point has.
func valueOf(l []api.Span, c int) int {
	for _, s := range l {
		if s.Lo <= c && c <= s.Hi {
			return s.Value
		}
	}
	return 0
}

// values returns the values of all code points.
func values(l []api.Span) []int {
	all := make([]int, codes)
	for _, s := range l {
		for c := s.Lo; c <= s.Hi; c++ {
			all[c] = s.Value
		}
	}
	return all
}

// lookUp follows the bits of a code point, as the chapter says.
func lookUp(t api.Table, c int) int {
	rest := 0
	for _, w := range t.Widths {
		rest += w
	}
	number := t.Stages[0][c>>rest]
	for i, w := range t.Widths {
		rest -= w
		number = t.Stages[i+1][number*(1<<w)+c>>rest%(1<<w)]
	}
	return number
}

// clone returns a copy of a table.
func clone(t api.Table) api.Table {
	c := api.Table{Widths: slices.Clone(t.Widths)}
	for _, stage := range t.Stages {
		c.Stages = append(c.Stages, slices.Clone(stage))
	}
	return c
}

func same(a, b api.Table) bool {
	return slices.Equal(a.Widths, b.Widths) && slices.EqualFunc(a.Stages, b.Stages, slices.Equal[[]int])
}

func empty(t api.Table) bool {
	return len(t.Widths) == 0 && len(t.Stages) == 0
}

// P13.1

func TestCheck(t *testing.T) {
	for _, c := range []struct {
		l      []api.Span
		widths []int
		want   api.Errno
	}{
		{nil, []int{8, 4}, api.OK},
		{nil, []int{9}, api.OK},
		{nil, []int{12}, api.OK},
		{nil, []int{12, 4}, api.OK},
		{nil, []int{1, 12, 3}, api.OK},
		{nil, []int{3, 3, 3}, api.OK},
		{nil, nil, api.ErrRange},
		{nil, []int{8}, api.ErrRange},
		{nil, []int{13}, api.ErrRange},
		{nil, []int{16}, api.ErrRange},
		{nil, []int{4, 4}, api.ErrRange},
		{nil, []int{12, 5}, api.ErrRange},
		{nil, []int{13, 1}, api.ErrRange},
		{nil, []int{0, 12}, api.ErrRange},
		{nil, []int{12, 0}, api.ErrRange},
		{nil, []int{12, -1}, api.ErrRange},
		{nil, []int{3, 3, 3, 3}, api.ErrRange},
		{nil, []int{6, 6, 5}, api.ErrRange},
		{nil, []int{math.MaxInt, math.MaxInt, 12}, api.ErrRange},
		{nil, []int{math.MinInt, math.MinInt, 12}, api.ErrRange},
		{spans(0, api.MaxCode, 1), []int{9}, api.OK},
		{spans(0, 0, -1), []int{9}, api.OK},
		{spans(5, 7, 1, 8, 9, 2), []int{9}, api.OK},
		{spans(5, 7, 1, 9, 9, 1), []int{9}, api.OK},
		{spans(5, 7, 1, 8, 9, 1), []int{9}, api.ErrOrder},
		{spans(5, 7, 1, 7, 9, 2), []int{9}, api.ErrOrder},
		{spans(5, 9, 1, 6, 7, 2), []int{9}, api.ErrOrder},
		{spans(8, 9, 1, 5, 6, 2), []int{9}, api.ErrOrder},
		{spans(5, 7, 1, 5, 7, 1), []int{9}, api.ErrOrder},
		{spans(5, 4, 1), []int{9}, api.ErrOrder},
		{spans(5, 7, 0), []int{9}, api.ErrOrder},
		{spans(-1, 7, 1), []int{9}, api.ErrOrder},
		{spans(-5, -3, 1), []int{9}, api.ErrOrder},
		{spans(5, codes, 1), []int{9}, api.ErrOrder},
		{spans(codes, codes, 1), []int{9}, api.ErrOrder},
		{spans(math.MinInt, math.MaxInt, 1), []int{9}, api.ErrOrder},
		{spans(5, 7, 1, 9, 9, 0), []int{9}, api.ErrOrder},
		{spans(5, 7, 0), nil, api.ErrOrder},
		{spans(8, 9, 1, 5, 6, 2), []int{99}, api.ErrOrder},
		{spans(5, 7, 1), []int{99}, api.ErrRange},
	} {
		if got := multistage.Check(c.l, c.widths); got != c.want {
			t.Errorf("Check(%v, %v) = %d", c.l, c.widths, got)
		}
		if got, errno := multistage.Build(c.l, c.widths); errno != c.want || c.want != api.OK && !empty(got) {
			t.Errorf("Build(%v, %v) = %v, %d", c.l, c.widths, got.Widths, errno)
		}
	}
}

func TestBuildWithoutSpans(t *testing.T) {
	got, errno := multistage.Build(nil, []int{8, 4})
	want := api.Table{Widths: []int{8, 4}, Stages: [][]int{make([]int, 272), make([]int, 256), make([]int, 16)}}
	if errno != api.OK || !same(got, want) {
		t.Error(got, errno)
	}
	if multistage.Size(got) != 544 || !multistage.Valid(got) {
		t.Error(multistage.Size(got), multistage.Valid(got))
	}
}

func TestBuildNumbersBlocksInTheOrderOfTheirFirstUse(t *testing.T) {
	// The values 9 at 0 and 8 at 513; with blocks of 512 numbers the first two blocks differ from the others.
	got, errno := multistage.Build(spans(0, 0, 9, 513, 513, 8), []int{9})
	if errno != api.OK {
		t.Fatal(errno)
	}
	want := api.Table{Widths: []int{9}, Stages: [][]int{make([]int, codes>>9), make([]int, 3*512)}}
	for i := range want.Stages[0] {
		want.Stages[0][i] = min(i, 2)
	}
	want.Stages[1][0], want.Stages[1][513] = 9, 8
	if !same(got, want) {
		t.Error(got.Stages[0][:5], len(got.Stages[1]))
	}
}

func TestBuildGivesEachCodePointItsValue(t *testing.T) {
	for _, l := range someSpans {
		all := values(l)
		for _, widths := range someWidths {
			got, errno := multistage.Build(l, widths)
			if errno != api.OK || !slices.Equal(got.Widths, widths) || len(got.Stages) != len(widths)+1 {
				t.Fatal(l, widths, errno)
			}
			if stray := strayNumber(got); stray != "" {
				t.Fatal(l, widths, stray)
			}
			for c, want := range all {
				if lookUp(got, c) != want {
					t.Fatalf("%v %v: %X has %d", l, widths, c, lookUp(got, c))
				}
			}
		}
	}
}

// strayNumber returns what a table that has the right number of stages has against the definition of canonical tables, in words.
func strayNumber(t api.Table) string {
	sum := 0
	for _, w := range t.Widths {
		sum += w
	}
	if len(t.Stages[0]) != codes>>sum {
		return fmt.Sprint("stage 0 has ", len(t.Stages[0]))
	}
	for i, w := range t.Widths {
		size, next := 1<<w, t.Stages[i+1]
		if len(next)%size != 0 {
			return fmt.Sprint("stage ", i+1, " has no whole blocks")
		}
		known := map[string]bool{}
		for at := 0; at < len(next); at += size {
			known[fmt.Sprint(next[at:at+size])] = true
		}
		if len(known)*size != len(next) {
			return fmt.Sprint("stage ", i+1, " has equal blocks")
		}
		used := 0
		for _, n := range t.Stages[i] {
			if n < 0 || n > used {
				return fmt.Sprint("stage ", i, " has ", n, " after ", used, " others")
			}
			used = max(used, n+1)
		}
		if used*size != len(next) {
			return fmt.Sprint("stage ", i+1, " has more blocks than are used")
		}
	}
	return ""
}

// P13.2

func TestValid(t *testing.T) {
	for _, l := range someSpans {
		for _, widths := range someWidths {
			built, _ := multistage.Build(l, widths)
			if !multistage.Valid(built) {
				t.Errorf("%v %v is not valid", l, widths)
			}
		}
	}
}

// damaged returns tables that are not valid, by what is wrong with them.
func damaged() map[string]api.Table {
	l := spans(0x41, 0x5A, 1, 0x161, 0x17A, 2, 0x3000, 0x3FFF, 3)
	good, _ := multistage.Build(l, []int{4, 5, 4})
	change := func(f func(t *api.Table)) api.Table {
		t := clone(good)
		f(&t)
		return t
	}
	set := func(stage, at, value int) api.Table {
		return change(func(t *api.Table) { t.Stages[stage][at] = value })
	}
	blocks := func(stage, size int) int { return len(good.Stages[stage]) / size }
	return map[string]api.Table{
		"no widths":         {Stages: good.Stages},
		"no stages":         {Widths: good.Widths},
		"nothing":           {},
		"other widths":      {Widths: []int{4, 4, 5}, Stages: good.Stages},
		"a wrong width":     {Widths: []int{13, -4, 4}, Stages: good.Stages},
		"fewer widths":      {Widths: []int{9, 4}, Stages: good.Stages},
		"a missing stage":   {Widths: good.Widths, Stages: good.Stages[:3]},
		"one more stage":    {Widths: good.Widths, Stages: append(slices.Clone(good.Stages), make([]int, 16))},
		"a short stage 0":   change(func(t *api.Table) { t.Stages[0] = t.Stages[0][:len(t.Stages[0])-1] }),
		"a long stage 0":    change(func(t *api.Table) { t.Stages[0] = append(t.Stages[0], 0) }),
		"an empty stage":    change(func(t *api.Table) { t.Stages[2] = nil }),
		"no last stage":     change(func(t *api.Table) { t.Stages[3] = nil }),
		"a piece of block":  change(func(t *api.Table) { t.Stages[3] = append(t.Stages[3], 77) }),
		"an odd stage":      change(func(t *api.Table) { t.Stages[2] = append(t.Stages[2], 1) }),
		"a missing block":   change(func(t *api.Table) { t.Stages[3] = t.Stages[3][:len(t.Stages[3])-16] }),
		"an unused block":   change(func(t *api.Table) { t.Stages[3] = append(t.Stages[3], slices.Repeat([]int{77}, 16)...) }),
		"an unused middle":  change(func(t *api.Table) { t.Stages[2] = append(t.Stages[2], slices.Repeat([]int{1}, 32)...) }),
		"a negative index":  set(1, 0, -1),
		"a great index":     set(2, 31, blocks(3, 16)),
		"a greatest index":  set(0, 5, math.MaxInt),
		"a least index":     set(0, 0, math.MinInt),
		"a great first one": set(0, 0, 1),
		"another order": change(func(t *api.Table) {
			for i, n := range t.Stages[2] {
				if n < 2 {
					t.Stages[2][i] = 1 - n
				}
			}
			for i := range 16 {
				t.Stages[3][i], t.Stages[3][16+i] = t.Stages[3][16+i], t.Stages[3][i]
			}
		}),
		"equal blocks": change(func(t *api.Table) {
			extra := blocks(3, 16)
			t.Stages[3] = append(t.Stages[3], t.Stages[3][:16]...)
			t.Stages[2][len(t.Stages[2])-1] = extra
		}),
	}
}

func TestTablesThatAreNotValid(t *testing.T) {
	for what, table := range damaged() {
		if multistage.Valid(table) {
			t.Errorf("%s: the table counts as valid", what)
		}
		if got := multistage.Spans(table); len(got) != 0 {
			t.Errorf("%s: Spans are %v", what, got)
		}
		for _, c := range []int{0, 0x41, 0x42, 0x161, 0x3000, 0x3FFF, 0x4000, api.MaxCode} {
			if got := multistage.Get(table, c); got != 0 {
				t.Errorf("%s: %X has the value %d", what, c, got)
			}
		}
	}
}

func TestEqualBlocksAreFoundInEveryStage(t *testing.T) {
	good, _ := multistage.Build(spans(0, 0, 1, 0x10000, 0x10000, 2), []int{3, 3, 3})
	for stage := 1; stage <= 3; stage++ {
		t1 := clone(good)
		count := len(t1.Stages[stage]) / 8
		t1.Stages[stage] = append(t1.Stages[stage], t1.Stages[stage][len(t1.Stages[stage])-8:]...)
		before := t1.Stages[stage-1]
		before[len(before)-1] = count
		if multistage.Valid(t1) {
			t.Errorf("equal blocks in stage %d count as valid", stage)
		}
	}
}

func TestGet(t *testing.T) {
	for _, l := range someSpans {
		for _, widths := range someWidths {
			table, _ := multistage.Build(l, widths)
			for _, c := range near(l) {
				if got := multistage.Get(table, c); got != valueOf(l, c) {
					t.Fatalf("%v %v: Get(%X) = %d", l, widths, c, got)
				}
			}
			for _, c := range []int{-1, codes, math.MinInt, math.MaxInt, -1 << 16, 1 << 32, 1<<32 + 0x41} {
				if got := multistage.Get(table, c); got != 0 {
					t.Fatalf("%v %v: Get(%d) = %d", l, widths, c, got)
				}
			}
		}
	}
}

// near returns code points in and around the spans, and at the ends.
func near(l []api.Span) []int {
	points := []int{0, 1, 0x3FF, 0x400, 0xFFFF, 0x10000, api.MaxCode - 1, api.MaxCode}
	for _, s := range l {
		for _, c := range []int{s.Lo - 1, s.Lo, s.Lo + 1, (s.Lo + s.Hi) / 2, s.Hi, s.Hi + 1} {
			if 0 <= c && c <= api.MaxCode {
				points = append(points, c)
			}
		}
	}
	return points
}

func TestSizeOfAnyTable(t *testing.T) {
	for _, c := range []struct {
		t    api.Table
		want int
	}{
		{api.Table{}, 0},
		{api.Table{Widths: []int{8, 4}}, 0},
		{api.Table{Stages: [][]int{{1, 2}, nil, {3}}}, 3},
		{api.Table{Widths: []int{99}, Stages: [][]int{make([]int, 10), make([]int, 5)}}, 15},
	} {
		if got := multistage.Size(c.t); got != c.want {
			t.Errorf("Size(%v) = %d", c.t, got)
		}
	}
}

// P13.3

func TestBest(t *testing.T) {
	l := spans(0x41, 0x5A, 1, 0x161, 0x17A, 2)
	for _, c := range []struct {
		l       []api.Span
		choices [][]int
		want    int
		errno   api.Errno
	}{
		{l, nil, 0, api.ErrNone},
		{spans(5, 4, 1), nil, 0, api.ErrNone},
		{spans(5, 4, 1), [][]int{{9}}, 0, api.ErrOrder},
		{spans(5, 4, 1), [][]int{{99}, {9}}, 0, api.ErrOrder},
		{l, [][]int{{9}, {99}}, 0, api.ErrRange},
		{l, [][]int{{4, 4, 4}, nil, {9}}, 0, api.ErrRange},
		{l, [][]int{{9}}, 0, api.OK},
		{nil, [][]int{{12, 4}, {8, 8}, {8, 4}, {8, 8}}, 1, api.OK},
		{nil, [][]int{{8, 8}, {8, 8}}, 0, api.OK},
		{nil, [][]int{{12}, {6, 5, 5}, {5, 6, 5}, {5, 5, 6}}, 1, api.OK},
	} {
		if got, errno := multistage.Best(c.l, c.choices); got != c.want || errno != c.errno {
			t.Errorf("Best(%v, %v) = %d, %d", c.l, c.choices, got, errno)
		}
	}
}

func TestBestHasTheLeastSize(t *testing.T) {
	for _, l := range someSpans {
		best, errno := multistage.Best(l, someWidths)
		least := 0
		for i, widths := range someWidths {
			table, _ := multistage.Build(l, widths)
			if i > 0 {
				before, _ := multistage.Build(l, someWidths[least])
				if multistage.Size(table) >= multistage.Size(before) {
					continue
				}
			}
			least = i
		}
		if errno != api.OK || best != least {
			t.Errorf("Best(%v) = %d, %d, not %d", l, best, errno, least)
		}
	}
}

// P13.4

// randomSpans returns valid spans with a few different values, of which many touch or repeat.
func randomSpans(r *rand.Rand) []api.Span {
	var l []api.Span
	at := r.Intn(300)
	for range r.Intn(40) {
		size := []int{1, 2, 16, 256, 1 + r.Intn(5000)}[r.Intn(5)]
		value := []int{1, 2, 3, -4, 1 << 40}[r.Intn(5)]
		if at+size > codes {
			break
		}
		if n := len(l); n == 0 || l[n-1].Hi+1 < at || l[n-1].Value != value {
			l = append(l, api.Span{Lo: at, Hi: at + size - 1, Value: value})
		}
		at += size + []int{0, 1, 16, 256, r.Intn(60000)}[r.Intn(5)]
	}
	return l
}

func TestTablesOfRandomSpans(t *testing.T) {
	r := rand.New(rand.NewSource(1))
	for range 25 {
		l := randomSpans(r)
		widths := someWidths[r.Intn(len(someWidths))]
		table, errno := multistage.Build(l, widths)
		if errno != api.OK || !multistage.Valid(table) {
			t.Fatal(l, widths, errno)
		}
		if got := multistage.Spans(table); !slices.Equal(got, l) {
			t.Fatal(l, widths, got)
		}
		if got, want := multistage.Size(table), fewest(values(l), widths); got != want {
			t.Fatal(l, widths, got, want)
		}
		for _, c := range near(l) {
			if multistage.Get(table, c) != valueOf(l, c) || lookUp(table, c) != valueOf(l, c) {
				t.Fatal(l, widths, c)
			}
		}
	}
}

// fewest returns how many numbers a table needs: each stage has a block for all different lists of the values under it.
func fewest(all []int, widths []int) int {
	under, size := 1, 0
	for i := len(widths) - 1; i >= 0; i-- {
		under <<= widths[i]
		different := map[string]bool{}
		for at := 0; at < codes; at += under {
			var key []byte
			for _, v := range all[at : at+under] {
				key = append(key, byte(v), byte(v>>40), byte(v>>63))
			}
			different[string(key)] = true
		}
		size += len(different) << widths[i]
	}
	return size + codes/under
}

func TestBlocksOfAllPowersOfTwoDiffer(t *testing.T) {
	var l []api.Span
	for bit := range 64 {
		l = append(l, api.Span{Lo: bit << 12, Hi: bit << 12, Value: 1 << bit})
	}
	table, errno := multistage.Build(l, []int{4, 4, 4})
	if errno != api.OK || !multistage.Valid(table) || !slices.Equal(multistage.Spans(table), l) {
		t.Error(errno, multistage.Valid(table), multistage.Spans(table))
	}
}

func TestSpansOfBuildAreTheSpans(t *testing.T) {
	for _, l := range someSpans {
		for _, widths := range someWidths {
			table, _ := multistage.Build(l, widths)
			if got := multistage.Spans(table); !slices.Equal(got, l) {
				t.Errorf("%v %v: %v", l, widths, got)
			}
		}
	}
}

func TestEveryCodePointOfAFineTable(t *testing.T) {
	var l []api.Span
	for c := 0; c < 0x2000; c += 3 {
		l = append(l, api.Span{Lo: c, Hi: c, Value: 1 + c%7})
	}
	table, errno := multistage.Build(l, []int{7, 6})
	if errno != api.OK || !slices.Equal(multistage.Spans(table), l) {
		t.Fatal(errno)
	}
	for c := range 0x2200 {
		want := 0
		if c < 0x2000 && c%3 == 0 {
			want = 1 + c%7
		}
		if got := multistage.Get(table, c); got != want {
			t.Fatalf("Get(%X) = %d, not %d", c, got, want)
		}
	}
}

func TestArgumentsAndResultsShareNothing(t *testing.T) {
	l, widths := spans(0x41, 0x5A, 1), []int{8, 4}
	table, _ := multistage.Build(l, widths)
	before := clone(table)
	got := multistage.Spans(table)
	multistage.Valid(table)
	multistage.Get(table, 0x41)
	got[0] = api.Span{}
	if !same(table, before) {
		t.Error("the table has changed")
	}
	table.Widths[0] = 0
	for _, stage := range table.Stages {
		clear(stage)
	}
	if !slices.Equal(l, spans(0x41, 0x5A, 1)) || !slices.Equal(widths, []int{8, 4}) {
		t.Error(l, widths)
	}
	if again, _ := multistage.Build(l, widths); !same(again, before) {
		t.Error("the second table differs from the first")
	}
}
