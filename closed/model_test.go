package closed_test

import (
	"slices"
	"strconv"
	"strings"

	"chancel/atom"
	"chancel/closed"
	"chancel/lat"
)

// The model: the chapter's words, one by one, to hold the package against.

// modelEnds tells what ways of c lead to from a, a among it: all Pairs are gone through, again and again, till no way leads further.
func modelEnds(c []atom.Pair, a atom.Atom) map[atom.Atom]bool {
	ends := map[atom.Atom]bool{}
	for more := true; more; {
		more = false
		for _, p := range c {
			if (p.A == a || p.A >= 0 && ends[p.A]) && !ends[p.B] {
				ends[p.B] = true
				more = true
			}
		}
	}
	ends[a] = true
	return ends
}

func modelReach(c []atom.Pair, a, b atom.Atom) bool {
	return modelEnds(c, a)[b]
}

// world is a lattice and what is known of it.
type world struct {
	lat.Lat
	right        bool
	joins, meets [][]int
	bottom, top  int
}

func newWorld(l lat.Lat) world {
	w := world{Lat: l, right: lat.Right(l), bottom: lat.Bottom(l), top: lat.Top(l)}
	for a := range l.Names {
		var joins, meets []int
		for b := range l.Names {
			joins = append(joins, lat.Join(l, a, b))
			meets = append(meets, lat.Meet(l, a, b))
		}
		w.joins = append(w.joins, joins)
		w.meets = append(w.meets, meets)
	}
	return w
}

func (w world) known(c []atom.Pair) bool {
	for _, n := range atom.Points(c) {
		if n >= len(w.Names) {
			return false
		}
	}
	return w.right
}

func (w world) low(c []atom.Pair, a atom.Atom) int {
	if !w.known(c) || a < 0 && atom.PointOf(a) >= len(w.Names) {
		return -1
	}
	if a < 0 {
		return atom.PointOf(a)
	}
	told := w.bottom
	for _, n := range atom.Points(c) {
		if modelReach(c, pt(n), a) {
			told = w.joins[told][n]
		}
	}
	return told
}

func (w world) high(c []atom.Pair, a atom.Atom) int {
	if !w.known(c) || a < 0 && atom.PointOf(a) >= len(w.Names) {
		return -1
	}
	if a < 0 {
		return atom.PointOf(a)
	}
	told := w.top
	for _, n := range atom.Points(c) {
		if modelReach(c, a, pt(n)) {
			told = w.meets[told][n]
		}
	}
	return told
}

func (w world) entails(c []atom.Pair, a, b atom.Atom) bool {
	if !w.known(append(slices.Clip(c), pair(a, b))) {
		return false
	}
	return modelReach(c, a, b) || lat.Leq(w.Lat, w.high(c, a), w.low(c, b))
}

func (w world) project(c []atom.Pair, keep []atom.Atom) []atom.Pair {
	if !w.known(c) {
		return nil
	}
	lows, highs := map[atom.Atom]int{}, map[atom.Atom]int{}
	for _, v := range keep {
		lows[v], highs[v] = w.low(c, v), w.high(c, v)
	}
	var told []atom.Pair
	for _, v := range keep {
		if v < 0 {
			continue
		}
		if lows[v] != w.bottom {
			told = append(told, pair(pt(lows[v]), v))
		}
		if highs[v] != w.top {
			told = append(told, pair(v, pt(highs[v])))
		}
		ends := modelEnds(c, v)
		for _, other := range keep {
			if other >= 0 && other != v && ends[other] && !lat.Leq(w.Lat, highs[v], lows[other]) {
				told = append(told, pair(v, other))
			}
		}
	}
	return atom.Norm(told)
}

// solutions tells for each way to lay points on so many variables, from 0 on, whether it is a solution of c.
func (w world) solutions(c []atom.Pair, vars int) []bool {
	var told []bool
	at := make([]int, vars)
	value := func(a atom.Atom) int {
		if a < 0 {
			return atom.PointOf(a)
		}
		return at[a]
	}
	var lay func(v int)
	lay = func(v int) {
		if v == vars {
			told = append(told, !slices.ContainsFunc(c, func(p atom.Pair) bool { return w.Up[value(p.A)]>>uint(value(p.B))&1 == 0 }))
			return
		}
		for n := range w.Names {
			at[v] = n
			lay(v + 1)
		}
	}
	lay(0)
	return told
}

// forKept tells, of what solutions tells, for each way to lay points whether it is one but for the variables that are not kept.
func (w world) forKept(solved []bool, vars int, keep []atom.Atom) []bool {
	told := slices.Clone(solved)
	size := len(solved)
	for v := range vars {
		size /= len(w.Names) // how far two ways stand apart that differ by one point of v
		if slices.Contains(keep, atom.Atom(v)) {
			continue
		}
		for i := range told {
			if i/size%len(w.Names) != 0 {
				continue
			}
			some := false
			for n := range w.Names {
				some = some || told[i+n*size]
			}
			for n := range w.Names {
				told[i+n*size] = some
			}
		}
	}
	return told
}

// build makes l of n points from what is below what.
func build(n int, below func(a, b int) bool) lat.Lat {
	l := lat.Lat{Names: names(n), Up: make([]uint64, n)}
	for a := range n {
		for b := range n {
			if below(a, b) {
				l.Up[a] |= uint64(1) << uint(b)
			}
		}
	}
	return l
}

func names(n int) []string {
	out := []string{}
	for i := range n {
		out = append(out, string(rune('A'+i%26))+strings.Repeat("x", i/26))
	}
	return out
}

func chain(n int) lat.Lat {
	return build(n, func(a, b int) bool { return a <= b })
}

func fallingChain(n int) lat.Lat {
	return build(n, func(a, b int) bool { return a >= b })
}

// cube is the sets of n things, a point for each.
func cube(n int) lat.Lat {
	return build(1<<uint(n), func(a, b int) bool { return a&^b == 0 })
}

// fan is a bottom 0, a top n - 1, and points between of which none is below another.
func fan(n int) lat.Lat {
	return build(n, func(a, b int) bool { return a == b || a == 0 || b == n-1 })
}

// grid is the pairs of numbers below n, the greatest first.
func grid(n int) lat.Lat {
	return build(n*n, func(a, b int) bool { return a/n >= b/n && a%n >= b%n })
}

// uneven has two ways from its bottom 2 up to its top 0, one of them by two points.
func uneven() lat.Lat {
	return build(5, func(a, b int) bool { return a == b || a == 2 || b == 0 || a == 4 && b == 1 })
}

// small tells small lattices.
func small() []lat.Lat {
	return []lat.Lat{chain(1), chain(2), fallingChain(2), chain(3), fallingChain(3), cube(2), fan(5), uneven()}
}

// great tells lattices of many points.
func great() []lat.Lat {
	return []lat.Lat{chain(64), fallingChain(64), cube(6), fan(64), grid(8), grid(5), cube(4), uneven()}
}

// wrong tells lattices that are not right.
func wrong() []lat.Lat {
	two := names(2)
	return []lat.Lat{
		{}, {Names: two}, {Up: []uint64{3, 2}}, {Names: two, Up: []uint64{3}}, {Names: two, Up: []uint64{3, 2, 4}},
		{Names: []string{"A", "1"}, Up: []uint64{3, 2}}, {Names: []string{"A", "A"}, Up: []uint64{3, 2}}, {Names: []string{"", "B"}, Up: []uint64{3, 2}},
		{Names: two, Up: []uint64{3, 6}}, {Names: two, Up: []uint64{3, 0}}, {Names: two, Up: []uint64{3, 3}}, {Names: two, Up: []uint64{1, 2}},
		{Names: names(3), Up: []uint64{3, 6, 4}}, {Names: names(3), Up: []uint64{7, 2, 4}}, {Names: names(3), Up: []uint64{5, 6, 4}},
		{Names: names(65), Up: append(chain(64).Up, 1<<63)}, {Names: names(70), Up: make([]uint64, 70)}, {Names: names(70), Up: chain(64).Up},
	}
}

func pair(a, b atom.Atom) atom.Pair { return atom.Pair{A: a, B: b} }

// pt is the atom of a point.
func pt(n int) atom.Atom { return atom.Point(n) }

// atomsOf tells the points of l, and so many variables.
func atomsOf(l lat.Lat, vars int) []atom.Atom {
	var all []atom.Atom
	for n := range l.Names {
		all = append(all, pt(n))
	}
	for v := range vars {
		all = append(all, atom.Atom(v))
	}
	return all
}

// pairs tells all Pairs of these atoms.
func pairs(of []atom.Atom) []atom.Pair {
	var all []atom.Pair
	for _, a := range of {
		for _, b := range of {
			all = append(all, pair(a, b))
		}
	}
	return all
}

// rows hands in each row of n of these.
func rows[T any](n int, of []T, see func(row []T)) {
	if n == 0 {
		see(nil)
		return
	}
	rows(n-1, of, func(row []T) {
		for _, x := range of {
			see(append(slices.Clip(row), x))
		}
	})
}

// some tells all lists that have some of these, in their order.
func some(of []atom.Atom) [][]atom.Atom {
	all := [][]atom.Atom{nil}
	for _, x := range of {
		for _, l := range all {
			all = append(all, append(slices.Clip(l), x))
		}
	}
	return all
}

// told tells c to a reader of a failure.
func told(c []atom.Pair) string {
	text := ""
	for _, p := range c {
		text += strconv.Itoa(int(p.A)) + "<=" + strconv.Itoa(int(p.B)) + " "
	}
	return text
}

// fault tells what of the package, asked of these atoms, is not what the model tells; nothing, if all is.
func fault(w world, c []atom.Pair, atoms, keep []atom.Atom) string {
	for _, a := range atoms {
		ends := modelEnds(c, a)
		for _, b := range atoms {
			if closed.Reach(c, a, b) != ends[b] {
				return told(c) + "Reach " + told([]atom.Pair{pair(a, b)})
			}
			if closed.Entails(w.Lat, c, a, b) != w.entails(c, a, b) {
				return told(c) + "Entails " + told([]atom.Pair{pair(a, b)})
			}
		}
		if closed.Low(w.Lat, c, a) != w.low(c, a) {
			return told(c) + "Low " + strconv.Itoa(int(a))
		}
		if closed.High(w.Lat, c, a) != w.high(c, a) {
			return told(c) + "High " + strconv.Itoa(int(a))
		}
	}
	return projectFault(w, c, keep)
}

// projectFault is fault, of Project alone.
func projectFault(w world, c []atom.Pair, keep []atom.Atom) string {
	got := closed.Project(w.Lat, c, keep)
	if !slices.Equal(got, w.project(c, keep)) {
		return told(c) + "Project " + told(got)
	}
	if again := closed.Project(w.Lat, got, keep); !slices.Equal(again, got) {
		return told(c) + "Project " + told(got) + "again " + told(again)
	}
	return ""
}
