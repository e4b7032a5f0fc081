package breakauto

import (
	"math"
	"math/rand"
	"slices"
	"testing"

	"unicodetext/api"
)

// randomPattern returns a valid pattern over n classes.
func randomPattern(r *rand.Rand, n, depth int) api.Pattern {
	kind := r.Intn(7)
	switch {
	case depth == 0 || kind < 2:
		classes := r.Perm(n)[:1+r.Intn(n)]
		slices.Sort(classes)
		return api.Pattern{Kind: api.PatClass, Classes: classes}
	case kind == 2:
		return api.Pattern{Kind: api.PatStar, Subs: []api.Pattern{randomPattern(r, n, depth-1)}}
	}
	p := api.Pattern{Kind: api.PatCat + kind%2}
	for range 2 + r.Intn(2) {
		p.Subs = append(p.Subs, randomPattern(r, n, depth-1))
	}
	return p
}

// subsets returns the automaton whose states are the sets that the scanner reaches, and whether it has as many as permitted.
func subsets(s *scanner) (api.Automaton, bool) {
	var a api.Automaton
	states := []set{s.start()}
	known := map[string]int{states[0].key(): 0}
	for i := 0; i < len(states); i++ {
		var next, marks []int
		for class := range s.classes {
			reached := s.after(states[i], class)
			number, ok := known[reached.key()]
			if !ok {
				number = len(states)
				known[reached.key()] = number
				states = append(states, reached)
			}
			next = append(next, number)
		}
		if len(states) > api.MaxStates {
			return api.Automaton{}, false
		}
		if states[i].meets(s.last) {
			marks = []int{0}
		}
		a.Next, a.Marks = append(a.Next, next), append(a.Marks, marks)
	}
	return a, true
}

// agree reports whether two automata have the same marks, whatever they read.
func agree(a, b api.Automaton) bool {
	pairs := [][2]int{{0, 0}}
	known := map[[2]int]bool{pairs[0]: true}
	for i := 0; i < len(pairs); i++ {
		one, other := pairs[i][0], pairs[i][1]
		if !slices.Equal(a.Marks[one], b.Marks[other]) {
			return false
		}
		for class := range a.Next[one] {
			pair := [2]int{a.Next[one][class], b.Next[other][class]}
			if !known[pair] {
				known[pair] = true
				pairs = append(pairs, pair)
			}
		}
	}
	return true
}

// However guesses are kept track of, the automaton is the same one, and that of the sets.
func TestBothRelationsLeadToTheSameAutomaton(t *testing.T) {
	r := rand.New(rand.NewSource(1))
	sizes := map[bool]int{}
	for range 2000 {
		n := 1 + r.Intn(3)
		s := newScanner(randomPattern(r, n, r.Intn(5)), reading{classes: n, first: n, backwards: r.Intn(2) == 0})
		var learned [3]*learner
		for i, few := range []int{0, 3, math.MaxInt} {
			learned[i] = newLearner(s)
			if !learned[i].learn(few) || len(learned[i].states) != len(learned[0].states) {
				t.Fatal(few, len(learned[i].states))
			}
			if !agree(learned[i].automaton(0), learned[0].automaton(0)) {
				t.Fatal(learned[i].automaton(0), learned[0].automaton(0))
			}
		}
		a, ok := subsets(s)
		if ok && !agree(a, learned[0].automaton(0)) {
			t.Fatal(a, learned[0].automaton(0))
		}
		sizes[ok && len(a.Next) > len(learned[0].states)]++
	}
	if sizes[true] < 100 || sizes[false] < 100 {
		t.Error("hardly any automata with more sets than states, or hardly any others", sizes)
	}
}
