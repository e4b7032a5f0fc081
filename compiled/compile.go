package compiled

import (
	"unicodetext/api"
	"unicodetext/database"
	"unicodetext/multistage"
	"unicodetext/seqpool"
	"unicodetext/spans"
)

const (
	noTag     = ""
	finalTag  = "final"
	codeBytes = 3 // enough for a code point
)

// Compile returns the tables of a database; the error of database.Check, ErrRange if the widths are not valid.
func Compile(d api.Database, widths []int) (api.Compiled, api.Errno) {
	if errno := database.Check(d); errno != api.OK {
		return api.Compiled{}, errno
	}
	if errno := multistage.Check(nil, widths); errno != api.OK {
		return api.Compiled{}, errno
	}
	build := func(l []api.Span) api.Table {
		t, _ := multistage.Build(l, widths)
		return t
	}
	c := api.Compiled{Version: d.Version, Classes: build(d.Norm.Classes)}
	for i := range api.PropertyCount {
		p := database.Property(d, i)
		c.Names = append(c.Names, p.Names)
		c.Properties = append(c.Properties, build(p.Spans))
	}
	for i := range api.SetCount {
		c.Sets = append(c.Sets, build(spansOf(database.Set(d, i))))
	}
	targets := &numbering{numbers: map[string]int{}}
	for _, mappings := range (source{d}).kinds() {
		c.Mappings = append(c.Mappings, build(targets.spans(mappings())))
	}
	c.Pool = seqpool.Pack(targets.different)
	return c, api.OK
}

// spansOf returns spans that give the elements of a valid set the value 1.
func spansOf(s api.Set) []api.Span {
	var l []api.Span
	for _, r := range s.Ranges {
		l = append(l, api.Span{Lo: r.Lo, Hi: r.Hi, Value: 1})
	}
	return l
}

// A numbering numbers targets of mappings from 1, in the order in which they first occur.
type numbering struct {
	numbers   map[string]int
	different [][]int
}

// number returns the number of a target.
func (n *numbering) number(to []int) int {
	key := make([]byte, 0, codeBytes*len(to))
	for _, c := range to {
		key = append(key, byte(c>>16), byte(c>>8), byte(c))
	}
	number, known := n.numbers[string(key)]
	if !known {
		n.different = append(n.different, to)
		number = len(n.different)
		n.numbers[string(key)] = number
	}
	return number
}

// spans returns spans that give code points the numbers of their targets.
func (n *numbering) spans(l []api.Mapping) []api.Span {
	var numbered []api.Span
	for _, m := range l {
		numbered = append(numbered, api.Span{Lo: m.From, Hi: m.From, Value: n.number(m.To)})
	}
	return spans.Joined(numbered)
}

// A source is a database from which mappings are taken by their kinds.
type source struct{ api.Database }

// kinds returns what takes the mappings of each kind.
func (s source) kinds() [api.MapCount]func() []api.Mapping {
	return [api.MapCount]func() []api.Mapping{
		api.MapCanonical:  s.canonical,
		api.MapCompat:     s.compat,
		api.MapLower:      s.lower,
		api.MapFinal:      s.final,
		api.MapUpper:      s.upper,
		api.MapTitle:      s.title,
		api.MapFold:       s.fold,
		api.MapConfusable: s.confusable,
	}
}

func (s source) canonical() []api.Mapping  { return tagged(s.Norm.Decomp, noTag) }
func (s source) lower() []api.Mapping      { return tagged(s.Case.Lower, noTag) }
func (s source) final() []api.Mapping      { return tagged(s.Case.Lower, finalTag) }
func (s source) upper() []api.Mapping      { return tagged(s.Case.Upper, noTag) }
func (s source) title() []api.Mapping      { return tagged(s.Case.Title, noTag) }
func (s source) fold() []api.Mapping       { return tagged(s.Case.Fold, noTag) }
func (s source) confusable() []api.Mapping { return tagged(s.Confusable, noTag) }

// compat takes for each code point the first decomposition with a tag.
func (s source) compat() []api.Mapping {
	var l []api.Mapping
	for _, m := range s.Norm.Decomp {
		if m.Tag != noTag && (len(l) == 0 || l[len(l)-1].From != m.From) {
			l = append(l, m)
		}
	}
	return l
}

// tagged returns the mappings with a tag.
func tagged(l []api.Mapping, tag string) []api.Mapping {
	var with []api.Mapping
	for _, m := range l {
		if m.Tag == tag {
			with = append(with, m)
		}
	}
	return with
}
