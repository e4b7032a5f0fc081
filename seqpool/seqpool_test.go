package seqpool_test

import (
	"math"
	"math/rand"
	"slices"
	"testing"

	"unicodetext/api"
	"unicodetext/seqpool"
)

func pool(codes, starts, lengths []int) api.Pool {
	return api.Pool{Codes: codes, Starts: starts, Lengths: lengths}
}

func same(a, b api.Pool) bool {
	return slices.Equal(a.Codes, b.Codes) && slices.Equal(a.Starts, b.Starts) && slices.Equal(a.Lengths, b.Lengths)
}

func clone(p api.Pool) api.Pool {
	return pool(slices.Clone(p.Codes), slices.Clone(p.Starts), slices.Clone(p.Lengths))
}

// invalid holds pools that are not valid.
var invalid = []api.Pool{
	pool([]int{1}, []int{0}, nil),
	pool([]int{1}, nil, []int{0}),
	pool([]int{1}, []int{0, 0}, []int{1}),
	pool([]int{1}, []int{-1}, []int{1}),
	pool([]int{1}, []int{0}, []int{-1}),
	pool([]int{1}, []int{1}, []int{-1}),
	pool([]int{1}, []int{-1}, []int{2}),
	pool([]int{1}, []int{0}, []int{2}),
	pool([]int{1}, []int{1}, []int{1}),
	pool([]int{1}, []int{2}, []int{0}),
	pool(nil, []int{0}, []int{1}),
	pool(nil, []int{1}, []int{0}),
	pool([]int{1, 2, 3}, []int{0, 1, 2}, []int{3, 2, 2}),
	pool([]int{1, 2, 3}, []int{2, 0}, []int{2, 1}),
	pool([]int{1, 2}, []int{math.MaxInt}, []int{math.MaxInt}),
	pool([]int{1, 2}, []int{math.MaxInt}, []int{1}),
	pool([]int{1, 2}, []int{1}, []int{math.MaxInt}),
	pool([]int{1, 2}, []int{math.MinInt}, []int{math.MinInt}),
	pool([]int{1, 2}, []int{math.MinInt}, []int{1}),
}

// P14.1

func TestPack(t *testing.T) {
	for _, c := range []struct {
		l    [][]int
		want api.Pool
	}{
		{nil, pool(nil, nil, nil)},
		{[][]int{nil}, pool(nil, []int{0}, []int{0})},
		{[][]int{{1, 2, 3}, {2, 3, 4}, {3, 4}}, pool([]int{1, 2, 3, 4}, []int{0, 1, 2}, []int{3, 3, 2})},
		{[][]int{{1, 2}, nil, {2}}, pool([]int{1, 2}, []int{0, 0, 1}, []int{2, 0, 1})},
		{[][]int{{1, 2, 1, 2}, {2, 1}, {1, 2}, {1}}, pool([]int{1, 2, 1, 2}, []int{0, 1, 0, 0}, []int{4, 2, 2, 1})},
		{[][]int{{1}, {2}, {1, 2}, {2, 1}}, pool([]int{1, 2, 1}, []int{0, 1, 0, 1}, []int{1, 1, 2, 2})},
		{[][]int{{5, 1, 5, 1}, {1, 5, 1, 2}}, pool([]int{5, 1, 5, 1, 2}, []int{0, 1}, []int{4, 4})},
		{[][]int{{1, 2, 3}, {4}, {1, 2, 3}}, pool([]int{1, 2, 3, 4}, []int{0, 3, 0}, []int{3, 1, 3})},
		{[][]int{{1, 1}, {1, 1, 1}, {1, 1, 1, 1, 2}}, pool([]int{1, 1, 1, 1, 2}, []int{0, 0, 0}, []int{2, 3, 5})},
		{[][]int{{1, 2}, {1, 2, 3}}, pool([]int{1, 2, 3}, []int{0, 0}, []int{2, 3})},
		{[][]int{{1, 2, 9}, {1, 2, 3}}, pool([]int{1, 2, 9, 1, 2, 3}, []int{0, 3}, []int{3, 3})},
		{[][]int{{-1, math.MaxInt, math.MinInt}, {math.MinInt, 0x110000}}, pool([]int{-1, math.MaxInt, math.MinInt, 0x110000}, []int{0, 2}, []int{3, 2})},
		{[][]int{{0}, {0, 0}, {1 << 32}, {1 << 32, 0}}, pool([]int{0, 0, 1 << 32, 0}, []int{0, 0, 2, 2}, []int{1, 2, 1, 2})},
	} {
		if got := seqpool.Pack(c.l); !same(got, c.want) {
			t.Errorf("Pack(%v) = %v, not %v", c.l, got, c.want)
		}
	}
}

func TestAdd(t *testing.T) {
	p := pool([]int{1, 2, 3, 4}, []int{0, 1, 2}, []int{3, 3, 2})
	for _, c := range []struct {
		p     api.Pool
		seq   []int
		want  api.Pool
		index int
	}{
		{api.Pool{}, []int{5}, pool([]int{5}, []int{0}, []int{1}), 0},
		{api.Pool{}, nil, pool(nil, []int{0}, []int{0}), 0},
		{p, []int{5}, pool([]int{1, 2, 3, 4, 5}, []int{0, 1, 2, 4}, []int{3, 3, 2, 1}), 3},
		{p, nil, pool([]int{1, 2, 3, 4}, []int{0, 1, 2, 0}, []int{3, 3, 2, 0}), 3},
		{p, []int{2, 3}, pool([]int{1, 2, 3, 4}, []int{0, 1, 2, 1}, []int{3, 3, 2, 2}), 3},
		{p, []int{3, 4, 1}, pool([]int{1, 2, 3, 4, 1}, []int{0, 1, 2, 2}, []int{3, 3, 2, 3}), 3},
		{p, []int{4, 4}, pool([]int{1, 2, 3, 4, 4}, []int{0, 1, 2, 3}, []int{3, 3, 2, 2}), 3},
		{p, []int{1, 2, 3, 4, 5}, pool([]int{1, 2, 3, 4, 5}, []int{0, 1, 2, 0}, []int{3, 3, 2, 5}), 3},
		{pool([]int{7, 8, 7}, nil, nil), []int{7}, pool([]int{7, 8, 7}, []int{0}, []int{1}), 0},
		{pool([]int{7, 8, 7}, []int{3}, []int{0}), []int{7, 7}, pool([]int{7, 8, 7, 7}, []int{3, 2}, []int{0, 2}), 1},
	} {
		if got, index := seqpool.Add(c.p, c.seq); !same(got, c.want) || index != c.index {
			t.Errorf("Add(%v, %v) = %v, %d", c.p, c.seq, got, index)
		}
	}
}

// place says by the definition where a sequence is placed, and what is appended.
func place(codes, seq []int) (int, []int) {
	for at := 0; at+len(seq) <= len(codes); at++ {
		if slices.Equal(codes[at:at+len(seq)], seq) {
			return at, nil
		}
	}
	for n := min(len(seq), len(codes)); ; n-- {
		if slices.Equal(codes[len(codes)-n:], seq[:n]) {
			return len(codes) - n, seq[n:]
		}
	}
}

func randomSequence(r *rand.Rand) []int {
	letters := 1 + r.Intn(3)
	seq := make([]int, r.Intn(9))
	for i := range seq {
		seq[i] = r.Intn(letters)
	}
	return seq
}

func TestRandomSequencesArePlacedAsDefined(t *testing.T) {
	r := rand.New(rand.NewSource(1))
	for range 3000 {
		var want, added api.Pool
		var l [][]int
		for i := range r.Intn(12) {
			seq := randomSequence(r)
			l = append(l, seq)
			start, more := place(want.Codes, seq)
			want = pool(slices.Concat(want.Codes, more), append(want.Starts, start), append(want.Lengths, len(seq)))
			var index int
			added, index = seqpool.Add(added, seq)
			if !same(added, want) || index != i {
				t.Fatal(l, added, index, want)
			}
		}
		if got := seqpool.Pack(l); !same(got, want) {
			t.Fatal(l, got, want)
		}
	}
}

func TestLongSequences(t *testing.T) {
	long := make([]int, 60000)
	long[len(long)-1] = 1
	seq := make([]int, 30000)
	p := seqpool.Pack([][]int{long, seq, append(slices.Clone(seq), 1), append(slices.Clone(seq), 2)})
	if !slices.Equal(p.Starts, []int{0, 0, 29999, 60000}) || len(p.Codes) != 60000+30001 {
		t.Error(p.Starts, len(p.Codes))
	}
}

// P14.2

func TestValid(t *testing.T) {
	for _, p := range invalid {
		if seqpool.Valid(p) {
			t.Errorf("%v counts as valid", p)
		}
	}
	for _, p := range []api.Pool{
		{},
		pool([]int{1, 2}, nil, nil),
		pool(nil, []int{0}, []int{0}),
		pool([]int{1}, []int{1}, []int{0}),
		pool([]int{1, 2, 3}, []int{0, 2, 3, 1}, []int{3, 1, 0, 1}),
		pool([]int{-1, math.MaxInt}, []int{0, 0}, []int{2, 2}),
	} {
		if !seqpool.Valid(p) {
			t.Errorf("%v does not count as valid", p)
		}
	}
}

func TestGetAndFind(t *testing.T) {
	p := pool([]int{1, 2, 3, 4}, []int{0, 1, 2, 4, 1}, []int{3, 3, 2, 0, 3})
	for i, want := range [][]int{{1, 2, 3}, {2, 3, 4}, {3, 4}, nil, {2, 3, 4}} {
		if got, ok := seqpool.Get(p, i); !slices.Equal(got, want) || !ok {
			t.Errorf("Get of %d = %v, %t", i, got, ok)
		}
	}
	for _, i := range []int{-1, 5, math.MinInt, math.MaxInt} {
		if got, ok := seqpool.Get(p, i); len(got) != 0 || ok {
			t.Errorf("Get of %d = %v, %t", i, got, ok)
		}
	}
	for _, c := range []struct {
		seq  []int
		want int
		ok   bool
	}{
		{[]int{1, 2, 3}, 0, true},
		{[]int{2, 3, 4}, 1, true},
		{[]int{3, 4}, 2, true},
		{nil, 3, true},
		{[]int{2, 3}, 0, false},
		{[]int{1, 2, 3, 4}, 0, false},
		{[]int{1, 2}, 0, false},
		{[]int{5}, 0, false},
		{[]int{-1}, 0, false},
	} {
		if got, ok := seqpool.Find(p, c.seq); got != c.want || ok != c.ok {
			t.Errorf("Find of %v = %d, %t", c.seq, got, ok)
		}
	}
	if got, ok := seqpool.Find(pool([]int{1}, nil, nil), nil); got != 0 || ok {
		t.Error("a pool without sequences has the empty one")
	}
}

func TestPoolsThatAreNotValid(t *testing.T) {
	for _, p := range invalid {
		for i := -1; i < 4; i++ {
			if got, ok := seqpool.Get(p, i); len(got) != 0 || ok {
				t.Errorf("Get(%v, %d) = %v, %t", p, i, got, ok)
			}
		}
		for _, seq := range [][]int{nil, {1}, {1, 2}, {1, 2, 3}} {
			if got, ok := seqpool.Find(p, seq); got != 0 || ok {
				t.Errorf("Find(%v, %v) = %d, %t", p, seq, got, ok)
			}
			want := pool(seq, []int{0}, []int{len(seq)})
			if got, index := seqpool.Add(p, seq); !same(got, want) || index != 0 {
				t.Errorf("Add(%v, %v) = %v, %d", p, seq, got, index)
			}
		}
	}
}

// P14.3

func TestPoolsKeepTheirSequences(t *testing.T) {
	r := rand.New(rand.NewSource(2))
	for range 2000 {
		var l [][]int
		total := 0
		for range r.Intn(10) {
			l = append(l, randomSequence(r))
			total += len(l[len(l)-1])
		}
		p := seqpool.Pack(l)
		if !seqpool.Valid(p) || len(p.Codes) > total || len(p.Starts) != len(l) {
			t.Fatal(l, p)
		}
		checkSequences(t, p, l)
		more := randomSequence(r)
		once, _ := seqpool.Add(p, more)
		twice, _ := seqpool.Add(once, more)
		if len(twice.Codes) != len(once.Codes) {
			t.Fatal(p, more)
		}
		checkSequences(t, twice, append(slices.Clone(l), more, more))
	}
}

// checkSequences checks that the pool has exactly these sequences.
func checkSequences(t *testing.T, p api.Pool, l [][]int) {
	t.Helper()
	for i, seq := range l {
		if got, ok := seqpool.Get(p, i); !ok || !slices.Equal(got, seq) {
			t.Fatal(p, i, got, ok, seq)
		}
		first := slices.IndexFunc(l, func(other []int) bool { return slices.Equal(other, seq) })
		if got, ok := seqpool.Find(p, seq); got != first || !ok {
			t.Fatal(p, seq, got, ok)
		}
	}
	if got, ok := seqpool.Get(p, len(l)); ok || len(got) != 0 {
		t.Fatal(p, got)
	}
}

func TestAddToPoolsThatWereNotPacked(t *testing.T) {
	r := rand.New(rand.NewSource(3))
	for range 2000 {
		p := pool(randomSequence(r), nil, nil)
		var l [][]int
		for range r.Intn(4) {
			start := r.Intn(len(p.Codes) + 1)
			length := r.Intn(len(p.Codes) - start + 1)
			p.Starts, p.Lengths = append(p.Starts, start), append(p.Lengths, length)
			l = append(l, p.Codes[start:start+length])
		}
		seq := randomSequence(r)
		got, index := seqpool.Add(p, seq)
		if index != len(l) {
			t.Fatal(p, seq, index)
		}
		checkSequences(t, got, append(l, seq))
	}
}

func TestArgumentsAndResultsShareNothing(t *testing.T) {
	codes := append(make([]int, 0, 10), 1, 2, 3)
	p := pool(codes, append(make([]int, 0, 10), 0), append(make([]int, 0, 10), 3))
	before := clone(p)
	for _, seq := range [][]int{nil, {3, 4}, {7}, {1, 2}} {
		got, _ := seqpool.Add(p, seq)
		clear(got.Codes)
		clear(got.Starts)
		clear(got.Lengths)
		if !same(p, before) || !slices.Equal(codes[:4], []int{1, 2, 3, 0}) {
			t.Fatal(p, codes[:4])
		}
	}
	seq, _ := seqpool.Get(p, 0)
	clear(seq)
	_ = append(seq, 9)
	one := []int{5, 6}
	packed := seqpool.Pack([][]int{one})
	packed.Codes[0] = 0
	if !same(p, before) || !slices.Equal(one, []int{5, 6}) || codes[:4][3] != 0 {
		t.Error(p, one)
	}
}
