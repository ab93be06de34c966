package closed

import (
	"iter"

	"chancel/atom"
)

// ways goes through all that ways of c lead to from a, each once, a the first. A point is where a way ends.
func ways(c []atom.Pair, a atom.Atom) iter.Seq[atom.Atom] {
	return func(yield func(atom.Atom) bool) {
		steps := stepsOf(c, a)
		seen := map[atom.Atom]bool{a: true}
		waits := []atom.Atom{a}
		for len(waits) > 0 {
			x := waits[len(waits)-1]
			waits = waits[:len(waits)-1]
			if !yield(x) {
				return
			}
			for _, y := range steps[x] {
				if !seen[y] {
					seen[y] = true
					waits = append(waits, y)
				}
			}
		}
	}
}

// stepsOf tells what the Pairs of c that ways from a may take lead to: from a, and from variables.
func stepsOf(c []atom.Pair, a atom.Atom) map[atom.Atom][]atom.Atom {
	steps := map[atom.Atom][]atom.Atom{}
	for _, p := range c {
		if p.A == a || !atom.IsPoint(p.A) {
			steps[p.A] = append(steps[p.A], p.B)
		}
	}
	return steps
}

// turned tells c with each Pair from its B to its A.
func turned(c []atom.Pair) []atom.Pair {
	told := make([]atom.Pair, len(c))
	for i, p := range c {
		told[i] = atom.Pair{A: p.B, B: p.A}
	}
	return told
}
