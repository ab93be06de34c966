package closed

import (
	"iter"
	"slices"

	"chancel/atom"
)

// graph tells for each number, from 0 on, those that a step leads to from it.
type graph [][]int

// ways goes through all numbers that ways lead to from start, start among them, but those that have been seen. Each comes behind all that ways lead to from it, as far as none of these leads back.
func (g graph) ways(start int, seen []bool) iter.Seq[int] {
	type stop struct{ at, next int }
	return func(yield func(int) bool) {
		if seen[start] {
			return
		}
		seen[start] = true
		stops := []stop{{at: start}}
		for len(stops) > 0 {
			last := &stops[len(stops)-1]
			if last.next == len(g[last.at]) {
				if !yield(last.at) {
					return
				}
				stops = stops[:len(stops)-1]
				continue
			}
			to := g[last.at][last.next]
			last.next++
			if !seen[to] {
				seen[to] = true
				stops = append(stops, stop{at: to})
			}
		}
	}
}

// rings tells for each variable of c the number of its ring, the variables that ways lead to from it, and back; and how many rings there are. From one ring to another ways lead to the higher number alone.
func rings(c []atom.Pair) (ring map[atom.Atom]int, count int) {
	vars := atom.Vars(c)
	over, under := steps(vars, c)
	seen := make([]bool, len(vars))
	var order []int
	for v := range vars {
		order = slices.AppendSeq(order, over.ways(v, seen))
	}
	clear(seen)
	ring = make(map[atom.Atom]int, len(vars))
	for _, v := range slices.Backward(order) { // what ways lead back to from the last one, and has no number yet, is all in its ring
		if seen[v] {
			continue
		}
		for w := range under.ways(v, seen) {
			ring[vars[w]] = count
		}
		count++
	}
	return ring, count
}

// steps tells what the Pairs of c lead to from each of vars, by their places, and what leads to each.
func steps(vars []atom.Atom, c []atom.Pair) (over, under graph) {
	place := make(map[atom.Atom]int, len(vars))
	for i, v := range vars {
		place[v] = i
	}
	over, under = make(graph, len(vars)), make(graph, len(vars))
	for _, p := range c {
		if atom.IsPoint(p.A) || atom.IsPoint(p.B) {
			continue
		}
		a, b := place[p.A], place[p.B]
		over[a] = append(over[a], b)
		under[b] = append(under[b], a)
	}
	return over, under
}
