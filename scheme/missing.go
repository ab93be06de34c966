package scheme

import (
	"slices"

	"chancel/atom"
	"chancel/closed"
	"chancel/lat"
	"chancel/solve"
)

// missing tells what asks whether a Pair of asked does not follow from c. That is what Entails of closed says, but Entails goes through all of c each time: of what Make has told, each Pair that follows stands there, or follows by points alone, and both are found once for all Pairs.
func missing(l lat.Lat, asked, c []atom.Pair) func(p atom.Pair) bool {
	if !solve.Known(l, slices.Concat(asked, c)) {
		return func(atom.Pair) bool { return true }
	}
	stands := make(map[atom.Pair]bool, len(c))
	for _, p := range c {
		stands[p] = true
	}
	low, high := lows(l, c), lows(upsideDown(l), turned(c))
	return func(p atom.Pair) bool {
		return !stands[p] && !lat.Leq(l, high(p.A), low(p.B)) && !closed.Reach(c, p.A, p.B)
	}
}

// lows tells what Low of closed tells of an atom, for all of them at once: the least solution of the Pairs that do not lead to a point, which always have one.
func lows(l lat.Lat, c []atom.Pair) func(a atom.Atom) int {
	up := slices.DeleteFunc(slices.Clone(c), func(p atom.Pair) bool { return atom.IsPoint(p.B) })
	least, _ := solve.Least(l, up)
	at := make(map[atom.Atom]int, len(least))
	for _, s := range least {
		at[s.V] = s.P
	}
	bottom := lat.Bottom(l)
	return func(a atom.Atom) int {
		if atom.IsPoint(a) {
			return atom.PointOf(a)
		}
		if p, ok := at[a]; ok {
			return p
		}
		return bottom
	}
}

// upsideDown tells l with each point below those that are below it in l.
func upsideDown(l lat.Lat) lat.Lat {
	down := make([]uint64, len(l.Up))
	for a := range down {
		for b := range down {
			if lat.Leq(l, a, b) {
				down[b] |= uint64(1) << a
			}
		}
	}
	return lat.Lat{Names: l.Names, Up: down}
}

// turned tells c with each Pair from its B to its A.
func turned(c []atom.Pair) []atom.Pair {
	told := make([]atom.Pair, len(c))
	for i, p := range c {
		told[i] = atom.Pair{A: p.B, B: p.A}
	}
	return told
}
