package breakauto

import (
	"iter"
	"math/bits"

	"unicodetext/api"
)

// A set is a set of positions, by their bits.
type set []uint64

const wordBits = 64

// all yields the positions of the set, in ascending order.
func (s set) all() iter.Seq[int] {
	return func(yield func(int) bool) {
		for i, word := range s {
			for ; word != 0; word &= word - 1 {
				if !yield(i*wordBits + bits.TrailingZeros64(word)) {
					return
				}
			}
		}
	}
}

// add adds a position to the set.
func (s set) add(position int) {
	s[position/wordBits] |= 1 << (position % wordBits)
}

// addAll adds the positions of another set.
func (s set) addAll(other set) {
	for i, word := range other {
		s[i] |= word
	}
}

// keep removes the positions that are not in another set.
func (s set) keep(other set) {
	for i, word := range other {
		s[i] &= word
	}
}

// meets reports whether the set has a position in common with another one.
func (s set) meets(other set) bool {
	for i, word := range other {
		if s[i]&word != 0 {
			return true
		}
	}
	return false
}

// contains reports whether the set has all positions of another one.
func (s set) contains(other set) bool {
	for i, word := range other {
		if word&^s[i] != 0 {
			return false
		}
	}
	return true
}

// key returns a string that only this set has.
func (s set) key() string {
	var key []byte
	for _, word := range s {
		for shift := 0; shift < wordBits; shift += 8 {
			key = append(key, byte(word>>shift))
		}
	}
	return string(key)
}

// A scanner finds where matches of a pattern end in what is read. Its positions are the places of classes in the pattern, numbered from 1; a set of them says which classes of the pattern may have been read last. The position 0 is in front of the pattern and in all these sets, because a match may begin anywhere.
type scanner struct {
	reading
	size   int   // the number of positions
	reads  []set // by class, or start or end: the positions with that class, and 0
	follow []set // by position: those that may come next
	last   set   // the positions with which a match ends
}

// newScanner returns the scanner of a valid pattern.
func newScanner(p api.Pattern, r reading) *scanner {
	s := &scanner{reading: r, size: 1 + countClasses(p)}
	for range r.classes + 2 {
		everywhere := s.none()
		everywhere.add(0)
		s.reads = append(s.reads, everywhere)
	}
	s.follow = append(s.follow, s.none())
	whole := s.lay(p)
	s.follow[0].add(0)
	s.last = whole.last
	if whole.empty {
		// The pattern matches everywhere, so it makes no difference what else it matches.
		s.last.add(0)
	} else {
		s.follow[0].addAll(whole.first)
	}
	return s
}

// countClasses returns the number of places of classes in a pattern.
func countClasses(p api.Pattern) int {
	if p.Kind == api.PatClass {
		return 1
	}
	n := 0
	for _, sub := range p.Subs {
		n += countClasses(sub)
	}
	return n
}

// none returns a new set without positions.
func (s *scanner) none() set {
	return make(set, s.size/wordBits+1)
}

// A part is what is known of a part of the pattern: the positions with which its matches begin and end, and whether it matches the empty list.
type part struct {
	first, last set
	empty       bool
}

// lay lays the positions of a part of the pattern, in the order of the reading.
func (s *scanner) lay(p api.Pattern) part {
	switch p.Kind {
	case api.PatClass:
		return s.layClasses(p.Classes)
	case api.PatAlt:
		whole := part{first: s.none(), last: s.none()}
		for _, sub := range p.Subs {
			whole = whole.or(s.lay(sub))
		}
		return whole
	case api.PatCat:
		whole := part{first: s.none(), last: s.none(), empty: true}
		for i := range p.Subs {
			if s.backwards {
				i = len(p.Subs) - 1 - i
			}
			whole = s.sequence(whole, s.lay(p.Subs[i]))
		}
		return whole
	}
	repeated := s.lay(p.Subs[0])
	s.link(repeated.last, repeated.first)
	repeated.empty = true
	return repeated
}

// layClasses lays a position with some classes.
func (s *scanner) layClasses(classes []int) part {
	position := len(s.follow)
	s.follow = append(s.follow, s.none())
	for _, class := range classes {
		s.reads[class].add(position)
	}
	single := part{first: s.none(), last: s.none()}
	single.first.add(position)
	single.last.add(position)
	return single
}

// or returns what is known of two alternatives. It takes over their memory.
func (a part) or(b part) part {
	a.first.addAll(b.first)
	a.last.addAll(b.last)
	a.empty = a.empty || b.empty
	return a
}

// sequence returns what is known of two parts one after the other. It takes over their memory.
func (s *scanner) sequence(a, b part) part {
	s.link(a.last, b.first)
	if a.empty {
		a.first.addAll(b.first)
	}
	if b.empty {
		b.last.addAll(a.last)
	}
	return part{first: a.first, last: b.last, empty: a.empty && b.empty}
}

// link lets each position of a set be followed by those of another one.
func (s *scanner) link(from, to set) {
	for position := range from.all() {
		s.follow[position].addAll(to)
	}
}

// start returns the positions after what is read first.
func (s *scanner) start() set {
	front := s.none()
	front.add(0)
	return s.after(front, s.first)
}

// after returns the positions after a class was read.
func (s *scanner) after(positions set, class int) set {
	next := s.none()
	for position := range positions.all() {
		next.addAll(s.follow[position])
	}
	next.keep(s.reads[class])
	return next
}

// before returns the positions from which reading a class leads to one of the given ones.
func (s *scanner) before(positions set, class int) set {
	reached := s.none()
	reached.addAll(positions)
	reached.keep(s.reads[class])
	previous := s.none()
	for position, follow := range s.follow {
		if follow.meets(reached) {
			previous.add(position)
		}
	}
	return previous
}
