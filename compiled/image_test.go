package compiled_test

import (
	"math"
	"reflect"
	"slices"
	"strings"
	"testing"

	"unicodetext/api"
	"unicodetext/compiled"
	"unicodetext/database"
	"unicodetext/image"
)

// lists returns the lists of a compiled database, in the order in which its image has them.
func lists(c api.Compiled) [][]int {
	l := [][]int{{c.Version.Major, c.Version.Minor}}
	for _, names := range c.Names {
		l = append(l, []int{len(names)})
		for _, name := range names {
			var bytes []int
			for _, b := range []byte(name) {
				bytes = append(bytes, int(b))
			}
			l = append(l, bytes)
		}
	}
	for _, t := range slices.Concat(c.Properties, []api.Table{c.Classes}, c.Sets, c.Mappings) {
		l = append(append(l, t.Widths), t.Stages...)
	}
	return append(l, c.Pool.Codes, c.Pool.Starts, c.Pool.Lengths)
}

// written returns the bytes of lists.
func written(l [][]int) string {
	var body strings.Builder
	for _, list := range l {
		body.WriteString(image.Ints(list))
	}
	return body.String()
}

// same reports whether two compiled databases are equal, where nil and empty slices are.
func same(a, b api.Compiled) bool {
	return a.Version == b.Version && slices.EqualFunc(a.Names, b.Names, slices.Equal) && slices.EqualFunc(lists(a), lists(b), slices.Equal)
}

// P16.3, P16.4

func TestImageAndLoad(t *testing.T) {
	strange := compile(t, usual(t), 8, 4)
	strange.Version = api.Version{Major: math.MinInt, Minor: math.MaxInt}
	strange.Names[0] = []string{"", "\x00\xFF\u20AC", "a b"}
	strange.Names[1] = slices.Repeat([]string{"a"}, 250)
	strange.Pool.Codes[0] = -7
	for i, c := range []api.Compiled{compile(t, database.Empty(), 8, 4), compile(t, usual(t), 8, 4), compile(t, usual(t), 9), compile(t, usual(t), 4, 5, 6), strange} {
		s, errno := compiled.Image(c)
		if s != image.Seal(written(lists(c))) || errno != api.OK {
			t.Error(i, errno)
		}
		if got, errno := compiled.Load(s); !same(got, c) || errno != api.OK {
			t.Error(i, errno)
		}
	}
}

func TestMoreNamesThanCanBeLoaded(t *testing.T) {
	c := compile(t, usual(t), 8, 4)
	c.Names[1] = slices.Repeat([]string{"a"}, 251)
	s, errno := compiled.Image(c)
	if errno != api.OK {
		t.Fatal(errno)
	}
	if _, errno := compiled.Load(s); errno != api.ErrRange {
		t.Error(errno)
	}
}

// failsWith checks that bytes cannot be loaded.
func failsWith(t *testing.T, what string, s string, errno api.Errno) {
	t.Helper()
	if got, e := compiled.Load(s); e != errno || !reflect.DeepEqual(got, api.Compiled{}) {
		t.Errorf("%s: %v, not %v", what, e, errno)
	}
}

func TestErrorsOfLoad(t *testing.T) {
	good := lists(compile(t, usual(t), 8, 4))
	names := 3 + 2 + 2 + 2 + 2 + 2 + 2 // and as many lists with the numbers of names
	tables := 1 + 7 + names
	pool := tables + 22*4
	if len(good) != pool+3 {
		t.Fatal(len(good))
	}
	for _, c := range []struct {
		what  string
		at    int
		list  []int
		errno api.Errno
	}{
		{"no version", 0, nil, api.ErrRange},
		{"a short version", 0, []int{1}, api.ErrRange},
		{"a long version", 0, []int{1, 2, 3}, api.ErrRange},
		{"no number of names", 1, nil, api.ErrRange},
		{"two numbers of names", 1, []int{3, 3}, api.ErrRange},
		{"no names", 1, []int{0}, api.ErrRange},
		{"a negative number of names", 1, []int{-1}, api.ErrRange},
		{"too many names", 1, []int{251}, api.ErrRange},
		{"very many names", 1, []int{math.MaxInt}, api.ErrRange},
		{"a negative byte", 2, []int{-1}, api.ErrRange},
		{"no byte", 2, []int{0x41, 256}, api.ErrRange},
		{"no widths", tables, nil, api.ErrRange},
		{"four widths", tables, []int{4, 4, 4, 4}, api.ErrRange},
		{"other widths", tables, []int{4, 8}, api.ErrData},
		{"widths that are not valid", tables, []int{0, 99}, api.ErrData},
		{"an empty stage", tables + 1, nil, api.ErrData},
		{"another stage", tables + 2, []int{1, 2, 3}, api.ErrData},
		{"a value that is no name", tables + 3, append(slices.Clone(good[tables+3][:len(good[tables+3])-1]), 3), api.ErrData},
		{"a class that is too great", tables + 7*4 + 3, append(slices.Clone(good[tables+7*4+3][:len(good[tables+7*4+3])-1]), 255), api.ErrData},
		{"no codes", pool, nil, api.ErrData},
		{"another number of starts", pool + 1, []int{0}, api.ErrData},
		{"no lengths", pool + 2, nil, api.ErrData},
	} {
		l := slices.Clone(good)
		l[c.at] = c.list
		failsWith(t, c.what, image.Seal(written(l)), c.errno)
	}
	// The first list with an error counts, and only then what is left.
	l := slices.Clone(good)
	l[2] = []int{-1}
	failsWith(t, "a list in front of another error", image.Seal(written(l)+"\x80"), api.ErrRange)
	failsWith(t, "bytes that are left", image.Seal(written(good)+"\x00"), api.ErrSize)
	l = slices.Clone(good)
	l[pool] = nil
	failsWith(t, "bytes that are left, and data that is not valid", image.Seal(written(l)+"\x00"), api.ErrSize)
	failsWith(t, "a number that is not written so", image.Seal("\x84\x00"+written(good)[1:]), api.ErrSyntax)
	failsWith(t, "a negative length", image.Seal("\x01"), api.ErrRange)
	failsWith(t, "nothing", image.Seal(""), api.ErrSize)
	failsWith(t, "no sum", "\x00\x00\x00", api.ErrSize)
	failsWith(t, "a wrong sum", "\x00\x00\x00\x00"+written(good), api.ErrSum)
}

// Every beginning of an image lacks something.
func TestLoadOfBeginnings(t *testing.T) {
	body := written(lists(compile(t, database.Empty(), 8, 4)))
	for n := 0; n < len(body); n += 1 + n/400 {
		errno := api.ErrSize
		if _, e := compiled.Load(image.Seal(body[:n])); e != errno && e != api.ErrRange { // a list may be longer than what is left
			t.Fatal(n, e)
		}
	}
	sealed := image.Seal(body)
	for at := 0; at < len(sealed); at += 1 + at/100 {
		changed := []byte(sealed)
		changed[at] ^= 1
		if _, errno := compiled.Load(string(changed)); errno != api.ErrSum {
			t.Fatal(at, errno)
		}
	}
}
