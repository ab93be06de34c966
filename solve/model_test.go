package solve_test

import (
	"slices"
	"strconv"
	"strings"

	"chancel/atom"
	"chancel/lat"
	"chancel/solve"
)

// The model: the chapter's words, one by one, to hold the package against. What is least is not worked out in it: all lists are tried.

func modelKnown(l lat.Lat, c []atom.Pair) bool {
	if !lat.Right(l) {
		return false
	}
	for _, n := range atom.Points(c) {
		if n >= len(l.Names) {
			return false
		}
	}
	return true
}

func modelValue(l lat.Lat, s []solve.Sol, a atom.Atom) int {
	if a < 0 {
		for i := range l.Names {
			if a == atom.Point(i) {
				return i
			}
		}
		return -1
	}
	for _, x := range s {
		if x.V == a {
			for i := range l.Names {
				if x.P == i {
					return i
				}
			}
			return -1
		}
	}
	return lat.Bottom(l)
}

func modelSolves(l lat.Lat, c []atom.Pair, s []solve.Sol) bool {
	ok := modelKnown(l, c)
	for _, x := range s {
		ok = ok && x.P >= 0 && x.P < len(l.Names)
	}
	for _, p := range c {
		ok = ok && lat.Leq(l, modelValue(l, s, p.A), modelValue(l, s, p.B))
	}
	return ok
}

// modelLists tells all lists for vars.
func modelLists(l lat.Lat, vars []atom.Atom) [][]solve.Sol {
	all := [][]solve.Sol{nil}
	for _, v := range vars {
		var longer [][]solve.Sol
		for _, s := range all {
			for p := range l.Names {
				longer = append(longer, append(slices.Clip(s), solve.Sol{V: v, P: p}))
			}
		}
		all = longer
	}
	return all
}

// modelLeast tells the one of those lists that solve c that is below all of them.
func modelLeast(l lat.Lat, c []atom.Pair) ([]solve.Sol, bool) {
	if !modelKnown(l, c) {
		return nil, false
	}
	var good [][]solve.Sol
	for _, s := range modelLists(l, atom.Vars(c)) {
		if modelSolves(l, c, s) {
			good = append(good, s)
		}
	}
	for _, s := range good {
		if !slices.ContainsFunc(good, func(other []solve.Sol) bool { return !isBelow(l, s, other) }) {
			return s, true
		}
	}
	if len(good) > 0 {
		panic("there is a list that solves, but no least one")
	}
	return nil, false
}

// isBelow asks whether s is below other, for each variable of s.
func isBelow(l lat.Lat, s, other []solve.Sol) bool {
	for _, x := range s {
		if !lat.Leq(l, x.P, modelValue(l, other, x.V)) {
			return false
		}
	}
	return true
}

// roundsLeast tells what Least has to, too, of lists that are too long for all to be tried: all pairs are gone through, again and again, till no variable rises.
func roundsLeast(l lat.Lat, joins [][]int, c []atom.Pair) ([]solve.Sol, bool) {
	at := map[atom.Atom]int{}
	for n := range l.Names {
		at[atom.Point(n)] = n
	}
	for _, v := range atom.Vars(c) {
		at[v] = lat.Bottom(l)
	}
	for more := true; more; {
		more = false
		for _, p := range c {
			j := joins[at[p.A]][at[p.B]]
			if j == at[p.B] {
				continue
			}
			if p.B < 0 {
				return nil, false
			}
			at[p.B] = j
			more = true
		}
	}
	var told []solve.Sol
	for _, v := range atom.Vars(c) {
		told = append(told, solve.Sol{V: v, P: at[v]})
	}
	return told, true
}

func joinsOf(l lat.Lat) [][]int {
	var all [][]int
	for a := range l.Names {
		var row []int
		for b := range l.Names {
			row = append(row, lat.Join(l, a, b))
		}
		all = append(all, row)
	}
	return all
}

// build makes l of n points from what is below what.
func build(n int, below func(a, b int) bool) lat.Lat {
	l := lat.Lat{Names: names(n), Up: make([]uint64, n)}
	for a := range n {
		for b := range n {
			if below(a, b) {
				l.Up[a] |= uint64(1) << uint(b)
			}
		}
	}
	return l
}

func names(n int) []string {
	out := []string{}
	for i := range n {
		out = append(out, string(rune('A'+i%26))+strings.Repeat("x", i/26))
	}
	return out
}

func chain(n int) lat.Lat {
	return build(n, func(a, b int) bool { return a <= b })
}

func fallingChain(n int) lat.Lat {
	return build(n, func(a, b int) bool { return a >= b })
}

// cube is the sets of n things, a point for each.
func cube(n int) lat.Lat {
	return build(1<<uint(n), func(a, b int) bool { return a&^b == 0 })
}

// fan is a bottom 0, a top n - 1, and points between of which none is below another.
func fan(n int) lat.Lat {
	return build(n, func(a, b int) bool { return a == b || a == 0 || b == n-1 })
}

// grid is the pairs of numbers below n, the greatest first.
func grid(n int) lat.Lat {
	return build(n*n, func(a, b int) bool { return a/n >= b/n && a%n >= b%n })
}

// uneven has two ways from its bottom 2 up to its top 0, one of them by two points.
func uneven() lat.Lat {
	return build(5, func(a, b int) bool { return a == b || a == 2 || b == 0 || a == 4 && b == 1 })
}

// small tells small lattices.
func small() []lat.Lat {
	return []lat.Lat{chain(1), chain(2), fallingChain(2), chain(3), fallingChain(3), cube(2), fan(5), uneven()}
}

// great tells lattices of many points.
func great() []lat.Lat {
	return []lat.Lat{chain(64), fallingChain(64), cube(6), fan(64), grid(8), grid(5), cube(4), uneven()}
}

// wrong tells lattices that are not right.
func wrong() []lat.Lat {
	two := names(2)
	return []lat.Lat{
		{}, {Names: two}, {Up: []uint64{3, 2}}, {Names: two, Up: []uint64{3}}, {Names: two, Up: []uint64{3, 2, 4}},
		{Names: []string{"A", "1"}, Up: []uint64{3, 2}}, {Names: []string{"A", "A"}, Up: []uint64{3, 2}}, {Names: []string{"", "B"}, Up: []uint64{3, 2}},
		{Names: two, Up: []uint64{3, 6}}, {Names: two, Up: []uint64{3, 0}}, {Names: two, Up: []uint64{3, 3}}, {Names: two, Up: []uint64{1, 2}},
		{Names: names(3), Up: []uint64{3, 6, 4}}, {Names: names(3), Up: []uint64{7, 2, 4}}, {Names: names(3), Up: []uint64{5, 6, 4}},
		{Names: names(65), Up: append(chain(64).Up, 1<<63)}, {Names: names(70), Up: make([]uint64, 70)}, {Names: names(70), Up: chain(64).Up},
	}
}

func pair(a, b atom.Atom) atom.Pair { return atom.Pair{A: a, B: b} }

// pt is the atom of a point.
func pt(n int) atom.Atom { return atom.Point(n) }

// atomsOf tells the points of l, and so many variables.
func atomsOf(l lat.Lat, vars int) []atom.Atom {
	var all []atom.Atom
	for n := range l.Names {
		all = append(all, pt(n))
	}
	for v := range vars {
		all = append(all, atom.Atom(v))
	}
	return all
}

// pairs tells all Pairs of these atoms.
func pairs(of []atom.Atom) []atom.Pair {
	var all []atom.Pair
	for _, a := range of {
		for _, b := range of {
			all = append(all, pair(a, b))
		}
	}
	return all
}

// sols tells all Sols of these.
func sols(vs []atom.Atom, ps []int) []solve.Sol {
	var all []solve.Sol
	for _, v := range vs {
		for _, p := range ps {
			all = append(all, solve.Sol{V: v, P: p})
		}
	}
	return all
}

// rows hands in each row of n of these.
func rows[T any](n int, of []T, see func(row []T)) {
	if n == 0 {
		see(nil)
		return
	}
	rows(n-1, of, func(row []T) {
		for _, x := range of {
			see(append(slices.Clip(row), x))
		}
	})
}

// told tells c to a reader of a failure.
func told(c []atom.Pair) string {
	text := ""
	for _, p := range c {
		text += strconv.Itoa(int(p.A)) + "<=" + strconv.Itoa(int(p.B)) + " "
	}
	return text
}
