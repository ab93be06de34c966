package closed

import (
	"slices"

	"chancel/atom"
	"chancel/lat"
)

// net is what c asks of the rings of its variables: what ways lead to from one of a ring, they lead to from all of it.
type net struct {
	l         lat.Lat
	ring      map[atom.Atom]int // of each variable of c
	over      graph             // the rings that Pairs lead to from each one
	low, high []int             // what Low and High are, of each one's variables
	kept      [][]atom.Atom     // each one's variables that are kept
}

// newNet tells the net of c, all whose points l has.
func newNet(l lat.Lat, c []atom.Pair, keep []atom.Atom) *net {
	ring, count := rings(c)
	n := &net{l: l, ring: ring, over: make(graph, count), kept: make([][]atom.Atom, count)}
	for _, p := range c {
		if atom.IsPoint(p.A) || atom.IsPoint(p.B) {
			continue
		}
		if r, s := ring[p.A], ring[p.B]; r != s {
			n.over[r] = append(n.over[r], s)
		}
	}
	vars := slices.Clone(keep)
	slices.Sort(vars)
	for _, v := range slices.Compact(vars) {
		if r, ok := ring[v]; ok { // c asks nothing of others
			n.kept[r] = append(n.kept[r], v)
		}
	}
	n.setPoints(c)
	return n
}

// setPoints sets low and high, ring by ring, as all that leads to a ring has a lower number.
func (n *net) setPoints(c []atom.Pair) {
	rows := n.rows(n.l, c)
	for r, to := range n.over {
		for _, s := range to {
			rows[s] &= rows[r]
		}
	}
	n.low = points(n.l, rows)
	down := upsideDown(n.l)
	rows = n.rows(down, turned(c))
	for r, to := range slices.Backward(n.over) {
		for _, s := range to {
			rows[r] &= rows[s]
		}
	}
	n.high = points(down, rows)
}

// rows tells for each ring the row of the join of all points that a Pair leads from to one of its variables.
func (n *net) rows(l lat.Lat, c []atom.Pair) []uint64 {
	told := slices.Repeat([]uint64{bottomRow(l)}, len(n.over))
	for _, p := range c {
		if atom.IsPoint(p.A) && !atom.IsPoint(p.B) {
			told[n.ring[p.B]] &= l.Up[atom.PointOf(p.A)]
		}
	}
	return told
}

// points tells the points of these rows.
func points(l lat.Lat, rows []uint64) []int {
	told := make([]int, len(rows))
	for i, row := range rows {
		told[i] = slices.Index(l.Up, row)
	}
	return told
}

// settled asks whether the points alone let all of r be below all of s.
func (n *net) settled(r, s int) bool {
	return lat.Leq(n.l, n.high[r], n.low[s])
}

// bounds tells the Pairs of the kept variables and points.
func (n *net) bounds() []atom.Pair {
	bottom, top := lat.Bottom(n.l), lat.Top(n.l)
	var told []atom.Pair
	for r, vars := range n.kept {
		for _, v := range vars {
			if n.low[r] != bottom {
				told = append(told, atom.Pair{A: atom.Point(n.low[r]), B: v})
			}
			if n.high[r] != top {
				told = append(told, atom.Pair{A: v, B: atom.Point(n.high[r])})
			}
		}
	}
	return told
}

// between tells the Pairs of two kept variables.
func (n *net) between() []atom.Pair {
	for r := range n.over { // where a step is settled, so is each way that takes it: what it comes from has no higher High than r, what it leads to no lower Low than s
		n.over[r] = slices.DeleteFunc(n.over[r], func(s int) bool { return n.settled(r, s) })
	}
	var starts []int
	for r, vars := range n.kept {
		if len(vars) > 0 {
			starts = append(starts, r)
		}
	}
	seen, marks := make([]bool, len(n.over)), make([]uint64, len(n.over))
	var told []atom.Pair
	for some := range slices.Chunk(starts, 64) {
		told = n.from(told, some, seen, marks)
	}
	return told
}

// from adds the Pairs from the kept variables of some rings, at most 64, whose ways are gone along all at once: the mark of a ring has the bits of those that lead to it. It needs all unseen and unmarked, and leaves them so.
func (n *net) from(told []atom.Pair, some []int, seen []bool, marks []uint64) []atom.Pair {
	var met []int
	for i, r := range some {
		marks[r] = uint64(1) << i
		met = slices.AppendSeq(met, n.over.ways(r, seen))
	}
	for _, s := range slices.Backward(met) { // each comes behind all that leads to it
		for _, t := range n.over[s] {
			marks[t] |= marks[s]
		}
		if len(n.kept[s]) > 0 {
			for i, r := range some {
				if marks[s]>>i&1 == 1 && !n.settled(r, s) {
					told = appendPairs(told, n.kept[r], n.kept[s])
				}
			}
		}
		seen[s], marks[s] = false, 0
	}
	return told
}

// appendPairs adds the Pairs from each of some variables to each of others.
func appendPairs(told []atom.Pair, from, to []atom.Atom) []atom.Pair {
	for _, v := range from {
		for _, w := range to {
			told = append(told, atom.Pair{A: v, B: w})
		}
	}
	return told
}
