package breakrule

import (
	"strings"

	"unicodetext/api"
)

// Text returns a line for each rule; the error of Check.
func Text(r api.BreakRules) (string, api.Errno) {
	if errno := Check(r); errno != api.OK {
		return "", errno
	}
	w := writer{classes: r.Classes}
	for _, rule := range r.Rules {
		w.out.WriteString(actionWord(rule.Action) + " ")
		w.writePattern(rule.Left)
		w.out.WriteString(" / ")
		w.writePattern(rule.Right)
		w.out.WriteString("\n")
	}
	return w.out.String(), api.OK
}

// actionWord returns the word for an action.
func actionWord(action int) string {
	switch action {
	case api.Keep:
		return wordKeep
	case api.Break:
		return wordBreak
	}
	return wordMust
}

// A writer writes valid patterns.
type writer struct {
	classes []string
	out     strings.Builder
}

// writePattern writes what is read as this pattern between other parts of a line or in parentheses.
func (w *writer) writePattern(p api.Pattern) {
	if p.Kind == api.PatAlt {
		w.writeSubs(p, "|", w.writeAlternative)
		return
	}
	w.writeAlternative(p)
}

// writeAlternative writes what is read as this pattern between bars.
func (w *writer) writeAlternative(p api.Pattern) {
	if p.Kind == api.PatCat {
		w.writeSubs(p, " ", w.writeRepeated)
		return
	}
	w.writeRepeated(p)
}

// writeSubs writes the Subs with a separator between them.
func (w *writer) writeSubs(p api.Pattern, separator string, write func(api.Pattern)) {
	for i, sub := range p.Subs {
		if i > 0 {
			w.out.WriteString(separator)
		}
		write(sub)
	}
}

// writeRepeated writes what is read as this pattern among atoms.
func (w *writer) writeRepeated(p api.Pattern) {
	if p.Kind != api.PatStar {
		w.writeAtom(p)
		return
	}
	w.writeAtom(p.Subs[0])
	w.out.WriteString("*")
}

// writeAtom writes what is read as this pattern in front of a star.
func (w *writer) writeAtom(p api.Pattern) {
	if p.Kind == api.PatClass {
		w.writeClasses(p.Classes)
		return
	}
	w.out.WriteString("(")
	w.writePattern(p)
	w.out.WriteString(")")
}

// writeClasses writes a class, a set, any, start or end.
func (w *writer) writeClasses(classes []int) {
	n := len(w.classes)
	switch {
	case classes[0] == n:
		w.out.WriteString(wordStart)
	case classes[0] == n+1:
		w.out.WriteString(wordEnd)
	case len(classes) == n:
		w.out.WriteString(wordAny)
	case len(classes) == 1:
		w.out.WriteString(w.classes[classes[0]])
	case len(classes) > n/2:
		w.writeSet("[^", complement(classes, n))
	default:
		w.writeSet("[", classes)
	}
}

// writeSet writes a set, after the bracket with which it begins.
func (w *writer) writeSet(bracket string, classes []int) {
	w.out.WriteString(bracket)
	for i, class := range classes {
		if i > 0 {
			w.out.WriteString(" ")
		}
		w.out.WriteString(w.classes[class])
	}
	w.out.WriteString("]")
}
