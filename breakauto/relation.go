package breakauto

import "slices"

// A relation reports whether it follows from the guesses that were given to it before that two sets are alike. If it does not, they are a further guess.
type relation func(a, b set) bool

// equivalence returns a relation by which sets are alike if guesses lead from one to the other. It is quick, but with many sets there are many guesses that do not follow from each other.
func equivalence() relation {
	numbers := map[string]int{} // of the sets, by their keys
	var linked []int            // by number: that of a set that is like this one; its own number for one set of all that are alike
	find := func(positions set) int {
		key := positions.key()
		number, ok := numbers[key]
		if !ok {
			number = len(linked)
			numbers[key] = number
			linked = append(linked, number)
		}
		for linked[number] != number {
			linked[number] = linked[linked[number]] // This shortens the way for the next time.
			number = linked[number]
		}
		return number
	}
	return func(a, b set) bool {
		one, other := find(a), find(b)
		linked[one] = other
		return one == other
	}
}

// congruence returns a relation by which unions of sets are alike, too, if the sets are. So much more follows from guesses, but it takes long to find out.
func congruence() relation {
	var guesses [][2]set
	// closure returns the greatest set that is like the given one: if it contains one set of a guess, it is like its union with the other one.
	closure := func(positions set) set {
		positions = slices.Clone(positions)
		grow := func(g [2]set) bool {
			if positions.contains(g[0]) == positions.contains(g[1]) {
				return false
			}
			positions.addAll(g[0])
			positions.addAll(g[1])
			return true
		}
		for grown := true; grown; {
			grown = false
			// What was added by a guess may be what an earlier or a later one needs.
			for _, g := range guesses {
				grown = grow(g) || grown
			}
			for _, g := range slices.Backward(guesses) {
				grown = grow(g) || grown
			}
		}
		return positions
	}
	return func(a, b set) bool {
		if slices.Equal(closure(a), closure(b)) {
			return true
		}
		guesses = append(guesses, [2]set{a, b})
		return false
	}
}
