package versions

import (
	"iter"
	"slices"
	"strconv"
	"strings"

	"unicodetext/api"
	"unicodetext/escape"
)

// The strings of values.
const (
	inSet    = "yes"
	notInSet = "no"
	noClass  = "0"
	tagEnd   = ">"
	between  = "|" // the mappings of a code point
)

// A stretch is a range of code points with the same string.
type stretch struct {
	api.Range
	value string
}

// A content is the strings that a file gives code points.
type content struct {
	given   []stretch // ascending and disjoint
	missing string    // the string of all other code points
}

// contents returns the contents of the files of a valid database, in order, without that of the version.
func contents(d api.Database) []content {
	return []content{
		ofProperty(d.Category), ofProperty(d.Width), ofProperty(d.Script),
		ofProperty(d.Grapheme), ofProperty(d.Word), ofProperty(d.Sentence), ofProperty(d.Line),
		ofClasses(d.Norm.Classes), ofMappings(d.Norm.Decomp), ofSet(d.Norm.Excluded),
		ofMappings(d.Case.Lower), ofMappings(d.Case.Upper), ofMappings(d.Case.Title), ofMappings(d.Case.Fold),
		ofSet(d.Case.Cased), ofSet(d.Case.Ignorable),
		ofSet(d.Ident.Start), ofSet(d.Ident.Continue), ofSet(d.Ident.Medial),
		ofMappings(d.Confusable),
	}
}

// ofProperty returns the names of the values of a property.
func ofProperty(p api.Property) content {
	return ofSpans(p.Spans, p.Names[0], func(value int) string { return p.Names[value] })
}

// ofClasses returns the numerals of classes.
func ofClasses(l []api.Span) content {
	return ofSpans(l, noClass, strconv.Itoa)
}

// ofSpans returns the strings of the values of spans.
func ofSpans(l []api.Span, missing string, text func(value int) string) content {
	c := content{missing: missing}
	for _, s := range l {
		c.given = append(c.given, stretch{api.Range{Lo: s.Lo, Hi: s.Hi}, text(s.Value)})
	}
	return c
}

// ofSet returns the strings of what is and what is not in a set.
func ofSet(s api.Set) content {
	c := content{missing: notInSet}
	for _, r := range s.Ranges {
		c.given = append(c.given, stretch{r, inSet})
	}
	return c
}

// ofMappings returns the strings of the mappings of code points.
func ofMappings(l []api.Mapping) content {
	var c content
	for len(l) > 0 {
		from := l[0].From
		var parts []string
		for len(l) > 0 && l[0].From == from {
			codes, _ := escape.Codes(l[0].To)
			parts = append(parts, l[0].Tag+tagEnd+codes)
			l = l[1:]
		}
		c.given = append(c.given, stretch{api.Range{Lo: from, Hi: from}, strings.Join(parts, between)})
	}
	return c
}

// all yields stretches that cover all code points, in ascending order.
func (c content) all() iter.Seq[stretch] {
	return func(yield func(stretch) bool) {
		next := 0
		for _, s := range c.given {
			if next < s.Lo && !yield(stretch{api.Range{Lo: next, Hi: s.Lo - 1}, c.missing}) {
				return
			}
			if !yield(s) {
				return
			}
			next = s.Hi + 1
		}
		if next <= api.MaxCode {
			yield(stretch{api.Range{Lo: next, Hi: api.MaxCode}, c.missing})
		}
	}
}

// pieces yields the largest ranges within which neither content has two stretches, in ascending order, each as a change, even if its strings are the same.
func pieces(before, after content) iter.Seq[api.Change] {
	return func(yield func(api.Change) bool) {
		rest := slices.Collect(after.all())
		for old := range before.all() {
			for lo := old.Lo; lo <= old.Hi; {
				for rest[0].Hi < lo {
					rest = rest[1:]
				}
				hi := min(old.Hi, rest[0].Hi)
				if !yield(api.Change{Range: api.Range{Lo: lo, Hi: hi}, Old: old.value, New: rest[0].value}) {
					return
				}
				lo = hi + 1
			}
		}
	}
}
