package breakrule

import (
	"slices"

	"unicodetext/api"
)

// Match reports whether a valid pattern matches the whole list; false for other patterns.
func Match(p api.Pattern, l []int) bool {
	return validPattern(p, anyClasses) && matches(stepsOf(p, false), l, true)
}

// anyClasses accepts all lists of classes: there may be any number of classes.
func anyClasses([]int) bool {
	return true
}

// Decide returns the action and the index of the rule that decides at a position; Break and -1 if there is none.
func Decide(r api.BreakRules, l []int, at int) (int, int) {
	if at < 0 || at > len(l) || Check(r) != api.OK || !allClasses(l, len(r.Classes)) {
		return api.Break, -1
	}
	n := len(r.Classes)
	before := append([]int{n}, l[:at]...)
	slices.Reverse(before)
	after := append(slices.Clone(l[at:]), n+1)
	for i, rule := range r.Rules {
		if matches(stepsOf(rule.Left, true), before, false) && matches(stepsOf(rule.Right, false), after, false) {
			return rule.Action, i
		}
	}
	return api.Break, -1
}

// allClasses reports whether all elements of the list are classes, if there are n of them.
func allClasses(l []int, n int) bool {
	for _, class := range l {
		if class < 0 || class >= n {
			return false
		}
	}
	return true
}

// A step of matching reads one of the classes and goes on with the only next step, or, without classes, reads nothing and goes on with each of the next steps. With the last step all is matched.
type step struct{ classes, next []int }

const lastStep = 0

// stepsOf returns the steps that match what a valid pattern matches, or all of this reversed. They begin with the last one of the list.
func stepsOf(p api.Pattern, reversed bool) []step {
	steps := []step{{}}
	add := func(classes []int, next ...int) int {
		steps = append(steps, step{classes, next})
		return len(steps) - 1
	}
	var lay func(p api.Pattern, next int) int // returns the step with which a match of p begins, if next is to follow it
	lay = func(p api.Pattern, next int) int {
		switch p.Kind {
		case api.PatClass:
			return add(p.Classes, next)
		case api.PatCat:
			for i := range p.Subs {
				sub := p.Subs[len(p.Subs)-1-i]
				if reversed {
					sub = p.Subs[i]
				}
				next = lay(sub, next)
			}
			return next
		case api.PatAlt:
			var ways []int
			for _, sub := range p.Subs {
				ways = append(ways, lay(sub, next))
			}
			return add(nil, ways...)
		}
		again := add(nil)
		steps[again].next = []int{lay(p.Subs[0], again), next}
		return again
	}
	add(nil, lay(p, lastStep))
	return steps
}

// matches reports whether the steps match the whole list, or otherwise a beginning of it.
func matches(steps []step, l []int, whole bool) bool {
	tried := map[int]int{} // by step: the last round in which it was tried
	round := 1             // one more than the number of elements that were read
	var waiting []int      // the steps that read the next element
	var try func(s int)
	try = func(s int) {
		if tried[s] == round {
			return
		}
		tried[s] = round
		if len(steps[s].classes) > 0 {
			waiting = append(waiting, s)
			return
		}
		for _, next := range steps[s].next {
			try(next)
		}
	}
	try(len(steps) - 1)
	for _, class := range l {
		if !whole && tried[lastStep] == round {
			return true
		}
		if len(waiting) == 0 {
			return false
		}
		reading := waiting
		waiting = nil
		round++
		for _, s := range reading {
			if slices.Contains(steps[s].classes, class) {
				try(steps[s].next[0])
			}
		}
	}
	return tried[lastStep] == round
}
