package solve

import (
	"slices"

	"chancel/atom"
	"chancel/lat"
)

// rise is the way of variables, each told by its place, from the bottom up to the lowest points that they can be at. A point stands here as its row in the lattice: what two points are both below is what their join is below, so the row of the join is what their rows have both.
type rise struct {
	rows    []uint64 // what each variable has come up to
	over    [][]int  // the variables that each one has to be below
	seen    []int    // how many of these have been looked at since it rose
	waits   []int    // the variables that have some left to be looked at
	waiting []bool   // whether a variable is in waits, where it need not be twice
}

// newRise tells the way of vars at its beginning: what stands above a point has risen to it. What has to be below a point is left out, as it raises nothing.
func newRise(l lat.Lat, vars []atom.Atom, c []atom.Pair) *rise {
	n := len(vars)
	r := &rise{rows: slices.Repeat([]uint64{l.Up[lat.Bottom(l)]}, n), over: make([][]int, n), seen: make([]int, n), waiting: make([]bool, n)}
	place := make(map[atom.Atom]int, n)
	for i, v := range vars {
		place[v] = i
	}
	for _, p := range c {
		if atom.IsPoint(p.B) {
			continue
		}
		b := place[p.B]
		if atom.IsPoint(p.A) {
			r.raise(b, l.Up[atom.PointOf(p.A)])
			continue
		}
		a := place[p.A]
		r.over[a] = append(r.over[a], b)
	}
	return r
}

// settle looks at what waits till nothing does.
func (r *rise) settle() {
look:
	for len(r.waits) > 0 {
		last := len(r.waits) - 1
		a := r.waits[last]
		for r.seen[a] < len(r.over[a]) {
			b := r.over[a][r.seen[a]]
			r.seen[a]++
			if r.raise(b, r.rows[a]) {
				continue look // b, and what is over it, comes ahead of what is left over a
			}
		}
		r.waits = r.waits[:last]
		r.waiting[a] = false
	}
}

// raise lets the variable be above the point of that row, too, and asks whether it rises by that.
func (r *rise) raise(v int, row uint64) bool {
	joined := r.rows[v] & row
	if joined == r.rows[v] {
		return false
	}
	r.rows[v] = joined
	r.seen[v] = 0
	if !r.waiting[v] {
		r.waiting[v] = true
		r.waits = append(r.waits, v)
	}
	return true
}
