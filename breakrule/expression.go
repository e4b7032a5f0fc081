package breakrule

import (
	"slices"

	"unicodetext/api"
)

// An expression is a pattern as it was written, before classes are attached to it. Expressions share their Subs, so that a pattern may have far more parts than the text that it was read from; it is measured before it is made.
type expression struct {
	kind    int
	classes []int
	border  bool // whether it is the start or the end, to which no classes are attached
	subs    []*expression

	plain, attached measure
}

// A measure is the size of a pattern. More parts than are permitted are not counted exactly, because their number may be beyond all bounds.
type measure struct{ parts, levels int }

// ofBorder returns the expression of the start or the end.
func ofBorder(index int) *expression {
	one := measure{parts: 1, levels: 1}
	return &expression{kind: api.PatClass, classes: []int{index}, border: true, plain: one, attached: one}
}

// ofClasses returns the expression of one of the classes.
func ofClasses(classes []int) *expression {
	return &expression{
		kind:     api.PatClass,
		classes:  classes,
		plain:    measure{parts: 1, levels: 1},
		attached: measure{parts: 4, levels: 3}, // PatCat of the classes and of PatStar of the attached ones
	}
}

// composed returns the expression that is composed of others.
func composed(kind int, subs ...*expression) *expression {
	e := &expression{kind: kind, subs: subs, plain: measure{parts: 1, levels: 1}, attached: measure{parts: 1, levels: 1}}
	for _, sub := range subs {
		e.plain = e.plain.around(sub.plain)
		e.attached = e.attached.around(sub.attached)
	}
	return e
}

// around returns the measure of a pattern with one more of its Subs.
func (m measure) around(sub measure) measure {
	return measure{parts: min(m.parts+sub.parts, mostParts+1), levels: max(m.levels, sub.levels+1)}
}

// measure returns the measure of the pattern, with or without attached classes.
func (e *expression) measure(attaching bool) measure {
	if attaching {
		return e.attached
	}
	return e.plain
}

// pattern returns the pattern, with the attached classes, if there are any.
func (e *expression) pattern(attached []int) api.Pattern {
	p := api.Pattern{Kind: e.kind, Classes: slices.Clone(e.classes)}
	for _, sub := range e.subs {
		p.Subs = append(p.Subs, sub.pattern(attached))
	}
	if e.kind != api.PatClass || e.border || len(attached) == 0 {
		return p
	}
	repeated := api.Pattern{Kind: api.PatClass, Classes: slices.Clone(attached)}
	star := api.Pattern{Kind: api.PatStar, Subs: []api.Pattern{repeated}}
	return api.Pattern{Kind: api.PatCat, Subs: []api.Pattern{p, star}}
}
