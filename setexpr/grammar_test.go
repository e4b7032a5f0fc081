package setexpr_test

import (
	"math/rand"
	"slices"
	"strings"
	"testing"

	"unicodetext/api"
	"unicodetext/cpset"
	"unicodetext/setexpr"
)

// A language is a set of strings, as it is left when the first bytes of strings were read: strings that end here, and what may follow.
type language struct {
	ends bool
	next func(b byte) *language // nil if nothing may follow
}

// oneOf is the language of the single bytes that are permitted.
func oneOf(permitted func(b byte) bool) *language {
	return &language{next: func(b byte) *language {
		if permitted(b) {
			return &language{ends: true}
		}
		return nil
	}}
}

// word is the language of one string.
func word(s string) *language {
	if s == "" {
		return &language{ends: true}
	}
	return &language{next: func(b byte) *language {
		if b == s[0] {
			return word(s[1:])
		}
		return nil
	}}
}

// after returns what is left of a language after a byte.
func after(l *language, b byte) *language {
	if l == nil || l.next == nil {
		return nil
	}
	return l.next(b)
}

// alt is the union of languages.
func alt(l ...*language) *language {
	l = slices.DeleteFunc(l, func(x *language) bool { return x == nil })
	switch len(l) {
	case 0:
		return nil
	case 1:
		return l[0]
	}
	return &language{
		ends: slices.ContainsFunc(l, func(x *language) bool { return x.ends }),
		next: func(b byte) *language {
			var left []*language
			for _, x := range l {
				left = append(left, after(x, b))
			}
			return alt(left...)
		},
	}
}

// cat is the language of strings of the first one followed by those of the second one.
func cat(first *language, rest ...*language) *language {
	if first == nil || len(rest) == 0 {
		return first
	}
	second := cat(rest[0], rest[1:]...)
	return &language{
		ends: first.ends && second.ends,
		next: func(b byte) *language {
			left := cat2(after(first, b), second)
			if first.ends {
				return alt(left, after(second, b))
			}
			return left
		},
	}
}

// cat2 is cat of what is left of a language, if there is something.
func cat2(first, second *language) *language {
	if first == nil {
		return nil
	}
	return cat(first, second)
}

// star is the language of any number of strings of a language, one after the other.
func star(l *language) *language {
	return &language{ends: true, next: func(b byte) *language { return cat2(after(l, b), star(l)) }}
}

// several is the language of n bytes that are permitted.
func several(n int, permitted func(b byte) bool) *language {
	l := word("")
	for range n {
		l = cat(oneOf(permitted), l)
	}
	return l
}

// expressions is the language of the grammar, with blanks where they may occur, and without regard to the order of pairs and to the depth.
func expressions() *language {
	const special = `[]^-&\{}`
	blanks := star(word(" "))
	token := func(s string) *language { return cat(blanks, word(s), blanks) }
	hex := func(b byte) bool { return strings.IndexByte("0123456789ABCDEF", b) >= 0 }
	numbers := []*language{cat(word("0"), several(5, hex)), cat(word("10"), several(4, hex))}
	for n := 1; n <= 5; n++ {
		numbers = append(numbers, several(n, hex))
	}
	character := alt(
		oneOf(func(b byte) bool { return 33 <= b && b <= 126 && strings.IndexByte(special, b) < 0 }),
		cat(word(`\u{`), alt(numbers...), word("}")),
		cat(word(`\`), oneOf(func(b byte) bool { return b == ' ' || strings.IndexByte(special, b) >= 0 })),
	)
	spaced := cat(blanks, character, blanks)
	letter := oneOf(func(b byte) bool {
		return 'a' <= b && b <= 'z' || 'A' <= b && b <= 'Z' || '0' <= b && b <= '9' || b == '_'
	})
	name := cat(letter, star(letter))
	class := cat(blanks, word(`\p{`), name, alt(word(""), cat(word("="), name)), word("}"), blanks)
	var group *language
	nested := &language{next: func(b byte) *language { return after(group, b) }}
	item := alt(spaced, cat(spaced, word("-"), spaced), nested, class)
	operator := cat(alt(token("&"), token("--")), alt(nested, class))
	group = cat(token("["), alt(word(""), token("^")), star(alt(item, operator)), token("]"))
	return group
}

// read returns how many bytes of s are a beginning of an expression, and whether all of s is one.
func read(grammar *language, s string) (int, bool) {
	l := grammar
	for i := range len(s) {
		if l = after(l, s[i]); l == nil {
			return i, false
		}
	}
	return len(s), l.ends
}

// checkFault checks the fault of an expression by the grammar. No name is known.
func checkFault(t *testing.T, grammar *language, s string) api.Errno {
	t.Helper()
	_, fault := setexpr.Parse(api.Database{}, s)
	n, whole := read(grammar, s)
	switch fault.Errno {
	case api.OK:
		if !whole {
			t.Fatalf("%q is no expression", s)
		}
	case api.ErrSyntax:
		if fault.At == n && !whole {
			break
		}
		// Only the second character of a pair may be refused before.
		before := strings.TrimRight(s[:fault.At], " ")
		if fault.At > n || !strings.HasSuffix(before, "-") || strings.HasSuffix(before, "--") && !strings.HasSuffix(before, `\--`) {
			t.Fatalf("%q: at %d, not %d", s, fault.At, n)
		}
	case api.ErrName:
		if before := s[:fault.At]; fault.At >= n || !strings.HasSuffix(before, `\p{`) {
			t.Fatalf("%q: %v", s, fault)
		}
	default:
		t.Fatalf("%q: %v", s, fault)
	}
	if fault.Errno == api.ErrSyntax {
		// What is in front of the fault is the beginning of an expression.
		if _, again := setexpr.Parse(api.Database{}, s[:fault.At]); again != (api.Fault{}) && again != fault {
			t.Fatalf("%q: %v", s[:fault.At], again)
		}
	}
	return fault.Errno
}

// P18.1, P18.3

func TestFaultsOfShortStrings(t *testing.T) {
	grammar := expressions()
	alphabet := `[]^-&\{}upz1F =`
	var check func(s string, more int)
	check = func(s string, more int) {
		checkFault(t, grammar, s)
		if n, _ := read(grammar, s); n < len(s) || more == 0 {
			return // Whatever follows, the fault is the same.
		}
		for i := range len(alphabet) {
			check(s+alphabet[i:i+1], more-1)
		}
	}
	check("", 5)
	check("[z-", 4)
	check(`[\`, 4)
	check(`[\u{1`, 3)
	check(`[\p{z`, 3)
	check(`[[]`, 3)
}

func TestFaultsOfRandomStrings(t *testing.T) {
	grammar := expressions()
	r := rand.New(rand.NewSource(3))
	tokens := []string{"[", "[", "]", "]", "^", "-", "--", "&", `\`, `\p{`, `\u{`, "{", "}", "a", "z", "=", "10FFFF", "F", "0", " ", `\[`, `\ `, `\p{a}`, "[a]", `\u{41}`, "-z", "&[a]", "--[z]", `\p{a=b}`, "\x00", "\xFF", "\t"}
	count := map[api.Errno]int{}
	for range 60000 {
		s := "["
		for range r.Intn(9) {
			s += tokens[r.Intn(len(tokens))]
		}
		s += strings.Repeat("]", r.Intn(3))
		count[checkFault(t, grammar, s)]++
	}
	for _, errno := range []api.Errno{api.OK, api.ErrSyntax, api.ErrName} {
		if count[errno] < 500 {
			t.Error(errno, count[errno])
		}
	}
}

// A meaning is an expression, and whether code points are in its set.
type meaning struct {
	s   string
	has func(c int) bool
}

// blanks returns some blanks.
func blanks(r *rand.Rand) string {
	return strings.Repeat(" ", r.Intn(8)/6)
}

// randomCharacter returns a character from a to p, written in one of the ways.
func randomCharacter(r *rand.Rand) (int, string) {
	c := 'a' + r.Intn(16)
	if r.Intn(3) == 0 {
		return c, `\u{` + strings.Repeat("0", r.Intn(4)) + strings.ToUpper(string("67"[c>>4-6])+string("0123456789ABCDEF"[c&15])) + "}"
	}
	return c, string(rune(c))
}

// randomItem returns an item.
func randomItem(r *rand.Rand, depth int) meaning {
	if depth > 0 && r.Intn(3) == 0 {
		return randomGroup(r, depth-1)
	}
	lo, first := randomCharacter(r)
	hi, last := randomCharacter(r)
	if hi < lo || r.Intn(2) == 0 {
		return meaning{first + blanks(r), func(c int) bool { return c == lo }}
	}
	return meaning{first + blanks(r) + "-" + blanks(r) + last + blanks(r), func(c int) bool { return lo <= c && c <= hi }}
}

// randomGroup returns a group of random items and operators, whose set is found by looking at each code point alone.
func randomGroup(r *rand.Rand, depth int) meaning {
	s := blanks(r) + "[" + blanks(r)
	negated := r.Intn(4) == 0
	if negated {
		s += "^" + blanks(r)
	}
	has := func(c int) bool { return false }
	for range r.Intn(6) {
		before := has
		kind := r.Intn(4)
		if depth == 0 {
			kind = 3
		}
		switch kind {
		case 0:
			m := randomGroup(r, depth-1)
			s += "&" + m.s
			has = func(c int) bool { return before(c) && m.has(c) }
		case 1:
			m := randomGroup(r, depth-1)
			s += "--" + m.s
			has = func(c int) bool { return before(c) && !m.has(c) }
		default:
			m := randomItem(r, depth)
			s += m.s
			has = func(c int) bool { return before(c) || m.has(c) }
		}
	}
	return meaning{s + "]" + blanks(r), func(c int) bool { return has(c) != negated }}
}

func TestSetsOfRandomExpressions(t *testing.T) {
	r := rand.New(rand.NewSource(4))
	for range 3000 {
		m := randomGroup(r, 3)
		set := parsed(t, m.s)
		for c := 'a' - 1; c <= 'q'; c++ {
			if cpset.Has(set, int(c)) != m.has(int(c)) {
				t.Fatalf("%s: %X", m.s, c)
			}
		}
		if !cpset.Valid(set) {
			t.Fatal(m.s, set)
		}
	}
}
