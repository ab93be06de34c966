package closed

import (
	"slices"

	"chancel/atom"
	"chancel/lat"
	"chancel/solve"
)

// low tells what Low does, where all is known.
func low(l lat.Lat, c []atom.Pair, a atom.Atom) int {
	return joined(l, turned(c), a)
}

// high tells what High does, where all is known: that is what Low does, of all turned.
func high(l lat.Lat, c []atom.Pair, a atom.Atom) int {
	return joined(upsideDown(l), c, a)
}

// joined tells the join of all points that ways of c lead to from a; of a point of l it.
func joined(l lat.Lat, c []atom.Pair, a atom.Atom) int {
	if atom.IsPoint(a) {
		return solve.Value(l, nil, a)
	}
	row := bottomRow(l)
	for x := range ways(c, a) {
		if atom.IsPoint(x) {
			row &= l.Up[atom.PointOf(x)]
		}
	}
	return slices.Index(l.Up, row)
}

// bottomRow tells the row of l's Bottom, which is below all. What two points are both below is what their join is below: so the row of the join of many is what this one, and theirs, all have.
func bottomRow(l lat.Lat) uint64 {
	return uint64(1)<<len(l.Up) - 1
}

// upsideDown tells l with each point below those that are below it in l.
func upsideDown(l lat.Lat) lat.Lat {
	down := make([]uint64, len(l.Up))
	for a := range down {
		for b := range down {
			if lat.Leq(l, a, b) {
				down[b] |= uint64(1) << a
			}
		}
	}
	return lat.Lat{Names: l.Names, Up: down}
}
