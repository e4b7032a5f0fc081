package breakauto

import (
	"math"
	"slices"

	"unicodetext/api"
)

// fewGuesses is the number of guesses up to which they are worth keeping track of one by one.
const fewGuesses = 10 * api.MaxStates

// Two sets of positions are alike if the same classes lead from them to matches. A learner finds the states of the minimal automaton of a scanner, which are the sets that are not alike; there may be far more sets than states, too many to make all of them. It tells sets apart by tests, and guesses that others are alike. It examines what follows from its guesses, until it has a test that refutes one of them, or there is none.
type learner struct {
	*scanner
	samples []int   // a class of each kind; those of the same kind are read by the same positions
	kinds   []int   // by class: its kind
	states  []set   // for each state one of its sets
	next    [][]int // by state and kind
	tests   []set   // a set passes a test if it meets it: then certain classes lead from it to a match
}

// A guess says that two sets are alike.
type guess struct {
	a, b  set
	from  *guess // the guess from which this one follows, because the class leads from its sets to these; nil if there is none
	class int
}

// minimal returns the minimal automaton that has a mark where a match ends, and whether it has as many states as permitted.
func minimal(s *scanner, mark int) (api.Automaton, bool) {
	l := newLearner(s)
	if !l.learn(fewGuesses) {
		return api.Automaton{}, false
	}
	return l.automaton(mark), true
}

// newLearner returns a learner that knows the first state.
func newLearner(s *scanner) *learner {
	l := &learner{scanner: s, states: []set{s.start()}, tests: []set{s.last}}
	known := map[string]int{}
	for class := range l.classes {
		key := l.reads[class].key()
		kind, ok := known[key]
		if !ok {
			kind = len(l.samples)
			known[key] = kind
			l.samples = append(l.samples, class)
		}
		l.kinds = append(l.kinds, kind)
	}
	return l
}

// learn finds all states, and reports whether there are as many as permitted. Up to a number of guesses it keeps track of them one by one.
func (l *learner) learn(few int) bool {
	for {
		guesses := l.explore()
		if len(l.states) > api.MaxStates {
			return false
		}
		tests, decided := l.refute(guesses, equivalence(), few)
		if !decided {
			tests, _ = l.refute(guesses, congruence(), math.MaxInt)
		}
		if len(tests) == 0 {
			return true
		}
		l.tests = append(l.tests, tests...)
	}
}

// explore finds further states and all next states, as far as the tests tell them apart; it stops when there are too many. It returns the guesses that it relies on.
func (l *learner) explore() []*guess {
	known := map[string]int{}
	for i, positions := range l.states {
		known[l.answers(positions)] = i
	}
	l.next = nil
	var guesses []*guess
	for i := 0; i < len(l.states) && len(l.states) <= api.MaxStates; i++ {
		next := make([]int, len(l.samples))
		for kind, class := range l.samples {
			reached := l.after(l.states[i], class)
			answers := l.answers(reached)
			number, ok := known[answers]
			if !ok {
				number = len(l.states)
				known[answers] = number
				l.states = append(l.states, reached)
			}
			if state := l.states[number]; !slices.Equal(reached, state) {
				guesses = append(guesses, &guess{a: reached, b: state})
			}
			next[kind] = number
		}
		l.next = append(l.next, next)
	}
	return guesses
}

// answers returns a string that says which tests a set passes.
func (l *learner) answers(positions set) string {
	answers := make([]byte, len(l.tests))
	for i, test := range l.tests {
		if positions.meets(test) {
			answers[i] = 1
		}
	}
	return string(answers)
}

// refute returns further tests, one of which refutes one of the guesses, or none if all of them are right; and whether this was decided with at most so many guesses that do not follow from each other.
func (l *learner) refute(guesses []*guess, follows relation, most int) ([]set, bool) {
	for accepted := 0; len(guesses) > 0; guesses = guesses[1:] {
		g := guesses[0]
		for _, test := range l.tests {
			if g.a.meets(test) != g.b.meets(test) {
				return l.testsBefore(g, test), true
			}
		}
		if follows(g.a, g.b) {
			continue
		}
		accepted++
		if accepted > most {
			return nil, false
		}
		for _, class := range l.samples {
			guesses = append(guesses, &guess{a: l.after(g.a, class), b: l.after(g.b, class), from: g, class: class})
		}
	}
	return nil, true
}

// testsBefore returns the new tests that refute those guesses from which a guess follows that a test refutes.
func (l *learner) testsBefore(g *guess, test set) []set {
	var tests []set
	for ; g.from != nil; g = g.from {
		test = l.before(test, g.class)
		if !slices.ContainsFunc(l.tests, func(known set) bool { return slices.Equal(known, test) }) {
			tests = append(tests, test)
		}
	}
	return tests
}

// automaton returns the automaton of the states, with a mark where a match ends.
func (l *learner) automaton(mark int) api.Automaton {
	var a api.Automaton
	for i, positions := range l.states {
		next := make([]int, l.classes)
		for class, kind := range l.kinds {
			next[class] = l.next[i][kind]
		}
		var marks []int
		if positions.meets(l.last) {
			marks = []int{mark}
		}
		a.Next = append(a.Next, next)
		a.Marks = append(a.Marks, marks)
	}
	return a
}
