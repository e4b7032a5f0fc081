package breakauto

import (
	"cmp"
	"slices"

	"unicodetext/api"
)

// A reading says how an automaton reads: over how many classes, in which direction, and what it reads first, the index of the start or of the end of a sequence.
type reading struct {
	classes, first int
	backwards      bool
}

// automaton returns the minimal automaton that marks the patterns that match where it is in its reading, and whether it has as many states as permitted.
func automaton(patterns []api.Pattern, r reading) (api.Automaton, bool) {
	var l []api.Automaton
	for i, p := range patterns {
		a, ok := minimal(newScanner(p, r), i)
		if !ok {
			return api.Automaton{}, false
		}
		l = append(l, a)
	}
	return product(l, r.classes)
}

// product returns the automaton that is in the states of several automata at once, and whether it has as many states as permitted. Because these are minimal and no two of them have the same marks, so is the product: if two of its states differ, two states of one of these differ, and some classes lead from them to different marks.
func product(l []api.Automaton, classes int) (api.Automaton, bool) {
	var a api.Automaton
	states := [][]int{make([]int, len(l))} // for each state those of the automata
	known := map[string]int{keyOf(states[0]): 0}
	for i := 0; i < len(states); i++ {
		next := make([]int, classes)
		for class := range classes {
			reached := step(l, states[i], class)
			key := keyOf(reached)
			number, ok := known[key]
			if !ok {
				number = len(states)
				known[key] = number
				states = append(states, reached)
			}
			next[class] = number
		}
		if len(states) > api.MaxStates {
			return api.Automaton{}, false
		}
		a.Next = append(a.Next, next)
		a.Marks = append(a.Marks, marksOf(l, states[i]))
	}
	return a, true
}

// keyOf returns a string that only these states have. A state is less than MaxStates, so two bytes hold it.
func keyOf(states []int) string {
	key := make([]byte, 0, 2*len(states))
	for _, state := range states {
		key = append(key, byte(state>>8), byte(state))
	}
	return string(key)
}

// step returns the states to which a class leads.
func step(l []api.Automaton, states []int, class int) []int {
	next := make([]int, len(l))
	for i, a := range l {
		next[i] = a.Next[states[i]][class]
	}
	return next
}

// marksOf returns all marks of the states.
func marksOf(l []api.Automaton, states []int) []int {
	var marks []int
	for i, a := range l {
		marks = merged(marks, a.Marks[states[i]])
	}
	return marks
}

// merged returns the elements of two ascending lists in ascending order, each once.
func merged[T cmp.Ordered](a, b []T) []T {
	l := slices.Concat(a, b)
	slices.Sort(l)
	return slices.Compact(l)
}
