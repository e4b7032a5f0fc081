package edits_test

import (
	"math"
	"math/rand"
	"slices"
	"testing"

	"unicodetext/api"
	"unicodetext/edits"
)

func edit(at, del int, ins ...int) api.Edit {
	return api.Edit{At: at, Del: del, Ins: ins}
}

func same(a, b api.Edit) bool {
	return a.At == b.At && a.Del == b.Del && slices.Equal(a.Ins, b.Ins)
}

// misfits holds edits that fit no sequence of three elements.
var misfits = []api.Edit{
	edit(-1, 0),
	edit(0, -1),
	edit(-1, -1, 9),
	edit(-1, 2),
	edit(2, -1),
	edit(4, 0),
	edit(4, -1),
	edit(0, 4),
	edit(3, 1),
	edit(2, 2, 9),
	edit(1, math.MaxInt),
	edit(math.MaxInt, 1),
	edit(math.MaxInt, math.MaxInt),
	edit(math.MinInt, math.MaxInt),
	edit(math.MinInt, math.MinInt),
	edit(math.MaxInt, math.MinInt),
	edit(3, math.MinInt),
}

// P53.1

func TestCheck(t *testing.T) {
	for at := range 5 {
		for del := range 5 {
			want := api.OK
			if at+del > 3 {
				want = api.ErrRange
			}
			if got := edits.Check(edit(at, del, 9, 9, 9, 9, 9), 3); got != want {
				t.Errorf("Check of %d elements at %d = %d", del, at, got)
			}
		}
	}
	for _, e := range misfits {
		if got := edits.Check(e, 3); got != api.ErrRange {
			t.Errorf("Check(%v) = %d", e, got)
		}
	}
	for _, c := range []struct {
		e    api.Edit
		size int
		want api.Errno
	}{
		{edit(0, 0), 0, api.OK},
		{edit(0, 0, 1), 0, api.OK},
		{edit(0, 1), 0, api.ErrRange},
		{edit(0, 0), -1, api.ErrRange},
		{edit(0, 0), math.MinInt, api.ErrRange},
		{edit(1, 0), math.MinInt, api.ErrRange},
		{edit(math.MaxInt, 0), math.MaxInt, api.OK},
		{edit(0, math.MaxInt), math.MaxInt, api.OK},
		{edit(1, math.MaxInt), math.MaxInt, api.ErrRange},
		{edit(math.MaxInt, math.MaxInt), math.MaxInt, api.ErrRange},
	} {
		if got := edits.Check(c.e, c.size); got != c.want {
			t.Errorf("Check(%v, %d) = %d", c.e, c.size, got)
		}
	}
}

func TestApplyAndInvert(t *testing.T) {
	for _, c := range []struct {
		text    []int
		e       api.Edit
		want    []int
		inverse api.Edit
	}{
		{nil, edit(0, 0), nil, edit(0, 0)},
		{nil, edit(0, 0, 7), []int{7}, edit(0, 1)},
		{[]int{1, 2, 3}, edit(1, 1, 7), []int{1, 7, 3}, edit(1, 1, 2)},
		{[]int{1, 2, 3}, edit(0, 3), nil, edit(0, 0, 1, 2, 3)},
		{[]int{1, 2, 3}, edit(0, 0, 7, 8), []int{7, 8, 1, 2, 3}, edit(0, 2)},
		{[]int{1, 2, 3}, edit(3, 0, 7, 8), []int{1, 2, 3, 7, 8}, edit(3, 2)},
		{[]int{1, 2, 3}, edit(1, 2, -1, math.MaxInt, 5), []int{1, -1, math.MaxInt, 5}, edit(1, 3, 2, 3)},
		{[]int{1, 2, 3}, edit(2, 0), []int{1, 2, 3}, edit(2, 0)},
	} {
		if got, errno := edits.Apply(c.e, c.text); !slices.Equal(got, c.want) || errno != api.OK {
			t.Errorf("Apply(%v, %v) = %v, %d", c.e, c.text, got, errno)
		}
		if got, errno := edits.Invert(c.e, c.text); !same(got, c.inverse) || errno != api.OK {
			t.Errorf("Invert(%v, %v) = %v, %d", c.e, c.text, got, errno)
		}
	}
}

func TestApplyAndInvertRejectMisfits(t *testing.T) {
	text := []int{1, 2, 3}
	for _, e := range misfits {
		if got, errno := edits.Apply(e, text); len(got) != 0 || errno != api.ErrRange {
			t.Errorf("Apply(%v) = %v, %d", e, got, errno)
		}
		if got, errno := edits.Invert(e, text); !same(got, api.Edit{}) || errno != api.ErrRange {
			t.Errorf("Invert(%v) = %v, %d", e, got, errno)
		}
	}
	if got, errno := edits.Apply(edit(0, 1), nil); len(got) != 0 || errno != api.ErrRange {
		t.Error(got, errno)
	}
}

// P53.2

func TestShift(t *testing.T) {
	for _, c := range []struct {
		e        api.Edit
		at, want int
	}{
		{edit(1, 2, 9), 0, 0},
		{edit(1, 2, 9), 1, 1},
		{edit(1, 2, 9), 2, 1},
		{edit(1, 2, 9), 3, 2},
		{edit(1, 2, 9), 4, 3},
		{edit(1, 0, 7, 8), 0, 0},
		{edit(1, 0, 7, 8), 1, 1},
		{edit(1, 0, 7, 8), 2, 4},
		{edit(1, 3), 1, 1},
		{edit(1, 3), 3, 1},
		{edit(1, 3), 4, 1},
		{edit(1, 3), 5, 2},
		{edit(2, 2, 7, 8, 9), 3, 2},
		{edit(2, 2, 7, 8, 9), 4, 5},
		{edit(0, 0), 5, 5},
		{edit(0, 1, 9), 0, 0},
		{edit(0, 1, 9), 1, 1},
		{edit(0, 0, 9), -1, -1},
		{edit(0, 5, 9), math.MinInt, math.MinInt},
		{edit(-1, 0, 9), 3, 3},
		{edit(0, -1, 9), 3, 3},
		{edit(-1, 5, 9), 0, 0},
		{edit(math.MinInt, math.MinInt, 9), 3, 3},
		{edit(-1, -1, 9), math.MaxInt, math.MaxInt},
		{edit(math.MaxInt, math.MaxInt, 9), 3, 3},
		{edit(5, math.MaxInt, 9), 1 << 62, 5},
		{edit(math.MaxInt, 1, 9), 1 << 62, 1 << 62},
		{edit(1<<61, 1<<60, 9), 1 << 62, 1<<62 - 1<<60 + 1},
		{edit(3, 0, 7, 8), 1 << 62, 1<<62 + 2},
	} {
		if got := edits.Shift(c.e, c.at); got != c.want {
			t.Errorf("Shift(%v, %d) = %d", c.e, c.at, got)
		}
	}
}

// P53.3

func TestDiff(t *testing.T) {
	for _, c := range []struct {
		a, b []int
		want api.Edit
	}{
		{nil, nil, edit(0, 0)},
		{[]int{1, 2, 3}, []int{1, 2, 3}, edit(3, 0)},
		{[]int{1, 2, 3}, []int{1, 9, 3}, edit(1, 1, 9)},
		{[]int{1, 1}, []int{1, 1, 1}, edit(2, 0, 1)},
		{[]int{1, 1, 1}, []int{1, 1}, edit(2, 1)},
		{nil, []int{1, 2}, edit(0, 0, 1, 2)},
		{[]int{1, 2}, nil, edit(0, 2)},
		{[]int{1, 2, 1, 2}, []int{1, 2}, edit(2, 2)},
		{[]int{1, 2}, []int{1, 2, 1, 2}, edit(2, 0, 1, 2)},
		{[]int{1, 2, 3}, []int{2, 3}, edit(0, 1)},
		{[]int{2, 3}, []int{1, 2, 3}, edit(0, 0, 1)},
		{[]int{1, 2, 2, 3}, []int{1, 2, 3}, edit(2, 1)},
		{[]int{1, 2, 3}, []int{4, 5, 6}, edit(0, 3, 4, 5, 6)},
		{[]int{1, -1}, []int{1, math.MinInt}, edit(1, 1, math.MinInt)},
	} {
		if got := edits.Diff(c.a, c.b); !same(got, c.want) {
			t.Errorf("Diff(%v, %v) = %v", c.a, c.b, got)
		}
	}
}

func TestMerge(t *testing.T) {
	for _, c := range []struct {
		e, f, want api.Edit
		ok         bool
	}{
		{edit(1, 0, 7, 8, 9), edit(2, 2, 6), edit(1, 0, 7, 6), true},
		{edit(1, 0, 7, 8, 9), edit(2, 3, 6), edit(0, 0), false},
		{edit(1, 0, 7, 8, 9), edit(1, 0, 6), edit(1, 0, 6, 7, 8, 9), true},
		{edit(1, 0, 7, 8, 9), edit(4, 0, 6), edit(1, 0, 7, 8, 9, 6), true},
		{edit(1, 0, 7, 8, 9), edit(4, 1, 6), edit(0, 0), false},
		{edit(1, 0, 7, 8, 9), edit(5, 0, 6), edit(0, 0), false},
		{edit(1, 0, 7, 8, 9), edit(0, 0, 6), edit(0, 0), false},
		{edit(1, 0, 7, 8, 9), edit(0, 2, 6), edit(0, 0), false},
		{edit(3, 4, 7, 8), edit(3, 2), edit(3, 4), true},
		{edit(3, 4), edit(3, 0), edit(3, 4), true},
		{edit(3, 4), edit(3, 0, 5), edit(3, 4, 5), true},
		{edit(3, 4), edit(3, 1), edit(0, 0), false},
		{edit(3, 4), edit(4, 0), edit(0, 0), false},
		{edit(0, 0), edit(0, 0), edit(0, 0), true},
		{edit(-1, 0, 7, 8), edit(0, 0, 6), edit(0, 0), false},
		{edit(0, -1, 7, 8), edit(0, 0, 6), edit(0, 0), false},
		{edit(0, 0, 7, 8), edit(-1, 0, 6), edit(0, 0), false},
		{edit(0, 0, 7, 8), edit(1, -1, 6), edit(0, 0), false},
		{edit(-2, 0, 7, 8), edit(-1, 0, 6), edit(0, 0), false},
		{edit(math.MaxInt, math.MaxInt, 7, 8), edit(math.MaxInt, 1, 6), edit(math.MaxInt, math.MaxInt, 6, 8), true},
		{edit(math.MaxInt-1, 0, 7, 8), edit(math.MaxInt, 1), edit(math.MaxInt-1, 0, 7), true},
		{edit(0, 0, 7, 8), edit(1, math.MaxInt), edit(0, 0), false},
		{edit(0, 0, 7, 8), edit(math.MaxInt, math.MaxInt), edit(0, 0), false},
		{edit(math.MinInt, 0, 7, 8), edit(math.MaxInt, 0), edit(0, 0), false},
	} {
		if got, ok := edits.Merge(c.e, c.f); !same(got, c.want) || ok != c.ok {
			t.Errorf("Merge(%v, %v) = %v, %t", c.e, c.f, got, ok)
		}
	}
}

// P53.4

// randomText returns a sequence with many equal elements.
func randomText(r *rand.Rand) []int {
	text := make([]int, r.Intn(7))
	for i := range text {
		text[i] = r.Intn(3) - 1
	}
	return text
}

// randomEdit returns an edit that fits a sequence of this size.
func randomEdit(r *rand.Rand, size int) api.Edit {
	at := r.Intn(size + 1)
	return edit(at, r.Intn(size-at+1), randomText(r)...)
}

func TestApplyOfDiff(t *testing.T) {
	r := rand.New(rand.NewSource(1))
	for range 5000 {
		a, b := randomText(r), randomText(r)
		e := edits.Diff(a, b)
		if got, errno := edits.Apply(e, a); !slices.Equal(got, b) || errno != api.OK {
			t.Fatal(a, b, e, got, errno)
		}
		prefix := 0
		for prefix < min(len(a), len(b)) && a[prefix] == b[prefix] {
			prefix++
		}
		if e.At != prefix || e.Del > 0 && len(e.Ins) > 0 && a[e.At+e.Del-1] == e.Ins[len(e.Ins)-1] {
			t.Fatal(a, b, e)
		}
	}
}

func TestApplyOfInvert(t *testing.T) {
	r := rand.New(rand.NewSource(2))
	for range 5000 {
		text := randomText(r)
		e := randomEdit(r, len(text))
		edited, errno := edits.Apply(e, text)
		inverse, second := edits.Invert(e, text)
		if errno != api.OK || second != api.OK {
			t.Fatal(text, e, errno, second)
		}
		if back, errno := edits.Apply(inverse, edited); !slices.Equal(back, text) || errno != api.OK {
			t.Fatal(text, e, inverse, back, errno)
		}
	}
}

func TestApplyOfMerge(t *testing.T) {
	r := rand.New(rand.NewSource(3))
	merged := 0
	for range 10000 {
		text := randomText(r)
		e := randomEdit(r, len(text))
		once, _ := edits.Apply(e, text)
		f := randomEdit(r, len(once))
		twice, _ := edits.Apply(f, once)
		g, ok := edits.Merge(e, f)
		if inside := f.At >= e.At && f.At+f.Del <= e.At+len(e.Ins); ok != inside {
			t.Fatal(e, f, ok)
		}
		if !ok {
			continue
		}
		merged++
		if got, errno := edits.Apply(g, text); !slices.Equal(got, twice) || errno != api.OK || g.At != e.At || g.Del != e.Del {
			t.Fatal(text, e, f, g, got, errno)
		}
	}
	if merged < 500 {
		t.Error("too few edits are merged:", merged)
	}
}

func TestWhatIsNotDeletedIsAtItsShift(t *testing.T) {
	r := rand.New(rand.NewSource(4))
	for range 5000 {
		text := randomText(r)
		for i := range text {
			text[i] = 100 + i
		}
		e := randomEdit(r, len(text))
		edited, _ := edits.Apply(e, text)
		before := 0
		for at := range len(text) + 1 {
			shifted := edits.Shift(e, at)
			if shifted < before || shifted > len(edited) {
				t.Fatal(text, e, at, shifted)
			}
			before = shifted
			// The position of an element is in front of it: that of an element at At stays there, in front of what is inserted.
			kept := at < e.At || at >= e.At+e.Del && at > e.At
			if at < len(text) && kept && edited[shifted] != text[at] {
				t.Fatal(text, e, at, shifted)
			}
		}
	}
}

func TestArgumentsAndResultsShareNothing(t *testing.T) {
	text := append(make([]int, 0, 20), 1, 2, 3)
	e := api.Edit{At: 1, Del: 1, Ins: append(make([]int, 0, 20), 7, 8)}
	f := edit(2, 1, 9)
	applied, _ := edits.Apply(e, text)
	inverse, _ := edits.Invert(e, text)
	diff := edits.Diff([]int{1}, text)
	merged, _ := edits.Merge(e, f)
	kept, _ := edits.Merge(e, edit(3, 0))
	for _, l := range [][]int{applied, inverse.Ins, diff.Ins, merged.Ins, kept.Ins} {
		clear(l)
		_ = append(l, -5, -5, -5)
	}
	if !slices.Equal(text[:6], []int{1, 2, 3, 0, 0, 0}) || !slices.Equal(e.Ins[:5], []int{7, 8, 0, 0, 0}) || !slices.Equal(f.Ins, []int{9}) {
		t.Error(text[:6], e.Ins[:5], f)
	}
}
