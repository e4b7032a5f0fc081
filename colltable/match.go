package colltable

import (
	"iter"
	"slices"

	"unicodetext/api"
	"unicodetext/decompose"
	"unicodetext/spans"
)

// A key is the number of codes, and the codes.
type key [1 + mostCodes]int

// keyOf returns the key of codes that are no more than an entry may have.
func keyOf(codes []int) key {
	k := key{len(codes)}
	copy(k[1:], codes)
	return k
}

// A matcher finds the matched parts of sequences by valid data.
type matcher struct {
	collation api.Collation
	classes   []api.Span
	entries   map[key][]api.Element
	begun     map[key]bool // with what entries begin that have more codes
}

// newMatcher returns a matcher for what the data counts as.
func newMatcher(n api.Norm, c api.Collation) *matcher {
	m := &matcher{collation: counted(c), entries: map[key][]api.Element{}, begun: map[key]bool{}}
	if decompose.Check(n) == api.OK {
		m.classes = n.Classes
	}
	for _, e := range m.collation.Entries {
		m.entries[keyOf(e.Codes)] = e.Elements
		for size := 1; size < len(e.Codes); size++ {
			m.begun[keyOf(e.Codes[:size])] = true
		}
	}
	return m
}

// has reports whether codes are those of an entry.
func (m *matcher) has(codes []int) bool {
	_, ok := m.entries[keyOf(codes)]
	return ok
}

// beginning returns the length of the longest beginning of a sequence that is the codes of an entry; 0 if there is none.
func (m *matcher) beginning(text []int) int {
	longest := 0
	for size := 1; size <= len(text); size++ {
		if m.has(text[:size]) {
			longest = size
		}
		if !m.begun[keyOf(text[:size])] {
			break
		}
	}
	return longest
}

// A part is a matched part.
type part struct {
	size     int
	elements []api.Element
	known    bool // whether it is the codes of an entry
}

// next returns the matched part of a sequence that is not empty, and what is left. It takes over the memory of the sequence.
func (m *matcher) next(text []int) (part, []int) {
	size := m.beginning(text)
	if size == 0 {
		return part{size: 1, elements: implicit(m.collation, text[0])}, text[1:]
	}
	codes := text[:size:size] // What is appended must not overwrite what follows.
	left := size              // where what is left begins
	greatest := 0             // the greatest class of what was not taken
	for i := size; i < len(text) && m.begun[keyOf(codes)]; i++ {
		class := spans.Value(m.classes, text[i])
		if class == 0 {
			break
		}
		longer := append(codes, text[i])
		if class <= greatest || !m.has(longer) {
			greatest = max(greatest, class)
			continue
		}
		codes = longer[:len(longer):len(longer)]
		copy(text[left+1:i+1], text[left:i])
		left++
	}
	return part{len(codes), m.entries[keyOf(codes)], true}, text[left:]
}

// Step returns the number of elements of the matched part of a sequence, the sequence that is left, and the elements of its entry or, without one, of its only element; nothing for the empty sequence.
func Step(n api.Norm, c api.Collation, text []int) (int, []int, []api.Element) {
	if len(text) == 0 {
		return 0, nil, nil
	}
	p, rest := newMatcher(n, c).next(slices.Clone(text))
	return p.size, rest, slices.Clone(p.elements)
}

// parts yields the matched parts of the decomposed sequence, from left to right.
func parts(n api.Norm, c api.Collation, text []int) iter.Seq[part] {
	return func(yield func(part) bool) {
		m := newMatcher(n, c)
		for rest := decompose.Text(n, text, false); len(rest) > 0; {
			var p part
			p, rest = m.next(rest)
			if !yield(p) {
				return
			}
		}
	}
}

// Elements returns the elements of all matched parts of the decomposed sequence.
func Elements(n api.Norm, c api.Collation, text []int) []api.Element {
	var l []api.Element
	for p := range parts(n, c, text) {
		l = append(l, p.elements...)
	}
	return l
}

// Known reports whether all matched parts of the decomposed sequence are the codes of entries.
func Known(n api.Norm, c api.Collation, text []int) bool {
	for p := range parts(n, c, text) {
		if !p.known {
			return false
		}
	}
	return true
}
