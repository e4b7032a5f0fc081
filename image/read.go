package image

import (
	"unicodetext/api"
	"unicodetext/multistage"
	"unicodetext/seqpool"
)

const (
	mostGroups = 10 // of a number
	lastGroup  = 1  // the only tenth group, because a number has 64 bits
)

// A reader reads bytes from the beginning.
type reader struct{ rest string }

// A stop is what a reader panics with where it cannot go on.
type stop struct{ errno api.Errno }

// run calls a function that reads, and returns the error with which that was stopped.
func run(read func()) (errno api.Errno) {
	defer func() {
		if s, ok := recover().(stop); ok {
			errno = s.errno
		}
	}()
	read()
	return api.OK
}

// group reads a byte of a number.
func (r *reader) group() byte {
	if r.rest == "" {
		panic(stop{api.ErrSize})
	}
	b := r.rest[0]
	r.rest = r.rest[1:]
	return b
}

// number reads a number.
func (r *reader) number() int {
	var bits uint64
	for i := 0; ; i++ {
		b := r.group()
		if i == mostGroups-1 && b != lastGroup || i > 0 && b == 0 {
			panic(stop{api.ErrSyntax})
		}
		bits |= uint64(b%moreMark) << (i * groupBits)
		if b < moreMark {
			return unfold(bits)
		}
	}
}

// list reads a list.
func (r *reader) list() []int {
	n := r.number()
	if n < 0 || n > len(r.rest) {
		panic(stop{api.ErrRange})
	}
	l := make([]int, n)
	for i := range l {
		l[i] = r.number()
	}
	return l
}

// end stops the reader if bytes are left.
func (r *reader) end() {
	if r.rest != "" {
		panic(stop{api.ErrSize})
	}
}

// ReadInts returns the list at the beginning of s, and the number of its bytes.
func ReadInts(s string) ([]int, int, api.Errno) {
	r := &reader{s}
	var l []int
	if errno := run(func() { l = r.list() }); errno != api.OK {
		return nil, 0, errno
	}
	return l, len(s) - len(r.rest), api.OK
}

// readSealed calls a function that reads all of sealed bytes, and returns the first error.
func readSealed(s string, read func(r *reader)) api.Errno {
	body, errno := Open(s)
	if errno != api.OK {
		return errno
	}
	r := &reader{body}
	return run(func() {
		read(r)
		r.end()
	})
}

// ReadTable returns the valid table with these bytes.
func ReadTable(s string) (api.Table, api.Errno) {
	var t api.Table
	errno := readSealed(s, func(r *reader) {
		t.Widths = r.list()
		for range len(t.Widths) + 1 {
			t.Stages = append(t.Stages, r.list())
		}
	})
	if errno != api.OK {
		return api.Table{}, errno
	}
	if !multistage.Valid(t) {
		return api.Table{}, api.ErrData
	}
	return t, api.OK
}

// ReadPool returns the valid pool with these bytes.
func ReadPool(s string) (api.Pool, api.Errno) {
	var p api.Pool
	errno := readSealed(s, func(r *reader) {
		p.Codes = r.list()
		p.Starts = r.list()
		p.Lengths = r.list()
	})
	if errno != api.OK {
		return api.Pool{}, errno
	}
	if !seqpool.Valid(p) {
		return api.Pool{}, api.ErrData
	}
	return p, api.OK
}
