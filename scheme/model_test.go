package scheme_test

import (
	"slices"
	"strconv"
	"strings"

	"chancel/atom"
	"chancel/lat"
	"chancel/ltype"
	"chancel/scheme"
	"chancel/shape"
)

// The model: the chapters' words, one by one, to hold the package against.

// place is a label of a type, and how it stands there: 1, if what the type is asked for is above it; -1, below; 0, both.
type place struct {
	label atom.Atom
	way   int
}

// modelPlaces tells the places of a right type; false of another one.
func modelPlaces(t ltype.Type, way int) ([]place, bool) {
	told := []place{{t.L, way}}
	switch {
	case t.Kind == 1 && t.C == 0 && t.PC == 0 && t.X == 0 && len(t.Kids) == 0:
		return told, true
	case t.Kind == 2 && t.PC == 0 && t.X == 0 && len(t.Kids) == 0:
		return append(told, place{t.C, 0}), true
	case t.Kind == 3 && t.C == 0 && len(t.Kids) == 2:
		given, ok := modelPlaces(t.Kids[0], -way)
		answered, also := modelPlaces(t.Kids[1], way)
		return slices.Concat(append(told, place{t.PC, -way}, place{t.X, way}), given, answered), ok && also
	}
	return nil, false
}

func modelShape(t ltype.Type) shape.Shape {
	s := shape.Shape{Kind: t.Kind}
	for _, k := range t.Kids {
		s.Kids = append(s.Kids, modelShape(k))
	}
	return s
}

// world is a lattice, and what is known of it.
type world struct {
	lat.Lat
	right        bool
	joins, meets [][]int
	bottom, top  int
}

func newWorld(l lat.Lat) world {
	w := world{Lat: l, right: lat.Right(l), bottom: lat.Bottom(l), top: lat.Top(l)}
	for a := range l.Names {
		var joins, meets []int
		for b := range l.Names {
			joins = append(joins, lat.Join(l, a, b))
			meets = append(meets, lat.Meet(l, a, b))
		}
		w.joins = append(w.joins, joins)
		w.meets = append(w.meets, meets)
	}
	return w
}

func (w world) known(c []atom.Pair) bool {
	for _, p := range c {
		if int(p.A) < -len(w.Names) || int(p.B) < -len(w.Names) {
			return false
		}
	}
	return w.right
}

// ends tells what ways of c lead to from a, a among it: all Pairs are gone through, again and again, till no way leads further.
func ends(c []atom.Pair, a atom.Atom) map[atom.Atom]bool {
	told := map[atom.Atom]bool{}
	for more := true; more; {
		more = false
		for _, p := range c {
			if (p.A == a || p.A >= 0 && told[p.A]) && !told[p.B] {
				told[p.B] = true
				more = true
			}
		}
	}
	told[a] = true
	return told
}

func (w world) low(c []atom.Pair, a atom.Atom) int {
	if a < 0 {
		return -1 - int(a)
	}
	told := w.bottom
	for n := range w.Names {
		if ends(c, pt(n))[a] {
			told = w.joins[told][n]
		}
	}
	return told
}

func (w world) high(c []atom.Pair, a atom.Atom) int {
	if a < 0 {
		return -1 - int(a)
	}
	told := w.top
	over := ends(c, a)
	for n := range w.Names {
		if over[pt(n)] {
			told = w.meets[told][n]
		}
	}
	return told
}

func (w world) entails(c []atom.Pair, p atom.Pair) bool {
	if !w.known(c) || !w.known([]atom.Pair{p}) {
		return false
	}
	return ends(c, p.A)[p.B] || lat.Leq(w.Lat, w.high(c, p.A), w.low(c, p.B))
}

// asks tells the places of t, and c with what has to hold that t may stand where a type is asked whose label of place k is variable k: the variables of t and c are renamed to those behind these.
func asks(t ltype.Type, c []atom.Pair) ([]place, []atom.Pair) {
	places, _ := modelPlaces(t, 1)
	others := map[atom.Atom]atom.Atom{}
	other := func(a atom.Atom) atom.Atom {
		if a < 0 {
			return a
		}
		if _, ok := others[a]; !ok {
			others[a] = atom.Atom(len(places) + len(others))
		}
		return others[a]
	}
	var all []atom.Pair
	for _, p := range c {
		all = append(all, pair(other(p.A), other(p.B)))
	}
	for k, p := range places {
		if p.way >= 0 {
			all = append(all, pair(other(p.label), atom.Atom(k)))
		}
		if p.way <= 0 {
			all = append(all, pair(atom.Atom(k), other(p.label)))
		}
	}
	return places, all
}

func (w world) make(t ltype.Type, c []atom.Pair) scheme.Scheme {
	places, ok := modelPlaces(t, 1)
	for _, p := range places {
		ok = ok && w.known([]atom.Pair{{A: p.label, B: 0}})
	}
	if !ok || !w.known(c) {
		return scheme.Scheme{}
	}
	_, all := asks(t, c)
	var lows, highs []int
	for k := range places {
		lows = append(lows, w.low(all, atom.Atom(k)))
		highs = append(highs, w.high(all, atom.Atom(k)))
	}
	var con []atom.Pair
	for k := range places {
		if lows[k] != w.bottom {
			con = append(con, pair(pt(lows[k]), atom.Atom(k)))
		}
		if highs[k] != w.top {
			con = append(con, pair(atom.Atom(k), pt(highs[k])))
		}
		over := ends(all, atom.Atom(k))
		for j := range places {
			if j != k && over[atom.Atom(j)] && !lat.Leq(w.Lat, highs[k], lows[j]) {
				con = append(con, pair(atom.Atom(k), atom.Atom(j)))
			}
		}
	}
	slices.SortFunc(con, func(p, q atom.Pair) int {
		if p.A != q.A {
			return int(p.A - q.A)
		}
		return int(p.B - q.B)
	})
	return scheme.Scheme{S: modelShape(t), Con: con}
}

// holds tells for each way to lay points on so many labels of places whether the others, of which there are so many behind them, can be laid so that c holds.
func (w world) holds(c []atom.Pair, labels, others int) []bool {
	var told []bool
	at := make([]int, labels+others)
	value := func(a atom.Atom) int {
		if a < 0 {
			return -1 - int(a)
		}
		return at[a]
	}
	var lay func(v int) bool // whether there is a way, of the others
	lay = func(v int) bool {
		if v == len(at) {
			return !slices.ContainsFunc(c, func(p atom.Pair) bool { return !lat.Leq(w.Lat, value(p.A), value(p.B)) })
		}
		some := false
		for n := range w.Names {
			at[v] = n
			some = lay(v+1) || some
		}
		if v == labels {
			told = append(told, some)
		}
		return some
	}
	if others == 0 {
		at = append(at, 0) // one that nothing is asked of, as lay tells what it finds behind the labels
	}
	lay(0)
	return told
}

func modelInst(s scheme.Scheme, next int) (ltype.Type, []atom.Pair, int) {
	var c []atom.Pair
	up := func(a atom.Atom) atom.Atom {
		if a < 0 {
			return a
		}
		return max(0, a+atom.Atom(next))
	}
	for _, p := range s.Con {
		c = append(c, pair(up(p.A), up(p.B)))
	}
	if next < 0 || !modelRight(s.S) {
		return ltype.Type{}, c, next
	}
	after := next
	label := func() atom.Atom {
		after++
		return atom.Atom(after - 1)
	}
	var fresh func(s shape.Shape) ltype.Type
	fresh = func(s shape.Shape) ltype.Type {
		t := ltype.Type{Kind: s.Kind, L: label()}
		switch s.Kind {
		case 2:
			t.C = label()
		case 3:
			t.PC = label()
			t.X = label()
			given := fresh(s.Kids[0])
			answered := fresh(s.Kids[1])
			t.Kids = []ltype.Type{given, answered}
		case 4:
			t.Kind = 1
		}
		return t
	}
	t := fresh(s.S)
	return t, c, after
}

func modelRight(s shape.Shape) bool {
	switch s.Kind {
	case 1, 2:
		return s.N == 0 && len(s.Kids) == 0
	case 3:
		return s.N == 0 && len(s.Kids) == 2 && modelRight(s.Kids[0]) && modelRight(s.Kids[1])
	}
	return s.Kind == 4 && s.N >= 0 && len(s.Kids) == 0
}

func modelSameShape(a, b shape.Shape) bool {
	return a.Kind == b.Kind && a.N == b.N && slices.EqualFunc(a.Kids, b.Kids, modelSameShape)
}

func (w world) order(a, b scheme.Scheme) bool {
	return modelSameShape(a.S, b.S) && !slices.ContainsFunc(a.Con, func(p atom.Pair) bool { return !w.entails(b.Con, p) })
}

func modelSame(a, b scheme.Scheme) bool {
	return modelSameShape(a.S, b.S) && slices.Equal(a.Con, b.Con)
}

func modelText(names []string, s scheme.Scheme) string {
	label := func(a atom.Atom) string {
		switch {
		case a >= 0:
			return "'" + strconv.Itoa(int(a))
		case int(a) >= -len(names):
			return names[-1-int(a)]
		}
		return "?"
	}
	var text func(t ltype.Type) string
	text = func(t ltype.Type) string {
		switch t.Kind {
		case 1:
			return "int@" + label(t.L)
		case 2:
			return "ref@" + label(t.L) + "[" + label(t.C) + "]"
		case 3:
			return "(" + text(t.Kids[0]) + " -" + label(t.PC) + "," + label(t.X) + "-> " + text(t.Kids[1]) + ")@" + label(t.L)
		}
		return "?"
	}
	t, _, _ := modelInst(s, 0)
	var all []string
	for _, p := range s.Con {
		all = append(all, label(p.A)+" <= "+label(p.B))
	}
	if len(all) == 0 {
		all = []string{"-"}
	}
	return text(t) + " | " + strings.Join(all, ", ")
}

// build makes l of n points from what is below what.
func build(n int, below func(a, b int) bool) lat.Lat {
	l := lat.Lat{Names: names(n), Up: make([]uint64, n)}
	for a := range n {
		for b := range n {
			if below(a, b) {
				l.Up[a] |= uint64(1) << uint(b)
			}
		}
	}
	return l
}

func names(n int) []string {
	told := []string{}
	for i := range n {
		told = append(told, string(rune('A'+i%26))+strings.Repeat("x", i/26))
	}
	return told
}

func chain(n int) lat.Lat {
	return build(n, func(a, b int) bool { return a <= b })
}

func fallingChain(n int) lat.Lat {
	return build(n, func(a, b int) bool { return a >= b })
}

// cube is the sets of n things, a point for each.
func cube(n int) lat.Lat {
	return build(1<<uint(n), func(a, b int) bool { return a&^b == 0 })
}

// fan is a bottom 0, a top n - 1, and points between of which none is below another.
func fan(n int) lat.Lat {
	return build(n, func(a, b int) bool { return a == b || a == 0 || b == n-1 })
}

// uneven has two ways from its bottom 2 up to its top 0, one of them by two points.
func uneven() lat.Lat {
	return build(5, func(a, b int) bool { return a == b || a == 2 || b == 0 || a == 4 && b == 1 })
}

// small tells small lattices.
func small() []lat.Lat {
	return []lat.Lat{chain(1), chain(2), fallingChain(2), chain(3), cube(2), fan(5), uneven()}
}

// great tells lattices of many points.
func great() []lat.Lat {
	return []lat.Lat{chain(64), fallingChain(64), cube(6), fan(64), cube(3), uneven(), chain(2)}
}

// wrong tells lattices that are not right.
func wrong() []lat.Lat {
	both := names(2)
	return []lat.Lat{
		{}, {Names: both}, {Up: []uint64{3, 2}}, {Names: both, Up: []uint64{3}}, {Names: both, Up: []uint64{3, 2, 4}},
		{Names: []string{"A", "1"}, Up: []uint64{3, 2}}, {Names: []string{"A", "A"}, Up: []uint64{3, 2}},
		{Names: both, Up: []uint64{3, 6}}, {Names: both, Up: []uint64{3, 3}}, {Names: both, Up: []uint64{1, 2}},
		{Names: names(65), Up: append(chain(64).Up, 1<<63)}, {Names: names(70), Up: make([]uint64, 70)},
	}
}

func pair(a, b atom.Atom) atom.Pair { return atom.Pair{A: a, B: b} }

// pt is the atom of a point.
func pt(n int) atom.Atom { return atom.Atom(-1 - n) }

// pairs tells all Pairs of these atoms.
func pairs(of []atom.Atom) []atom.Pair {
	var all []atom.Pair
	for _, a := range of {
		for _, b := range of {
			all = append(all, pair(a, b))
		}
	}
	return all
}

// rows hands in each row of n of these.
func rows[T any](n int, of []T, see func(row []T)) {
	if n == 0 {
		see(nil)
		return
	}
	rows(n-1, of, func(row []T) {
		for _, x := range of {
			see(append(slices.Clip(row), x))
		}
	})
}

func hole(n int) shape.Shape { return shape.Shape{Kind: shape.Hole, N: n} }

func fun(a, b shape.Shape) shape.Shape {
	return shape.Shape{Kind: shape.Fun, Kids: []shape.Shape{a, b}}
}

var (
	in  = shape.Shape{Kind: shape.Int}
	ref = shape.Shape{Kind: shape.Ref}
)

func number(l atom.Atom) ltype.Type { return ltype.Type{Kind: 1, L: l} }

func cell(l, c atom.Atom) ltype.Type { return ltype.Type{Kind: 2, L: l, C: c} }

func arrow(l, pc, x atom.Atom, kids ...ltype.Type) ltype.Type {
	return ltype.Type{Kind: 3, L: l, PC: pc, X: x, Kids: kids}
}

// laid tells the type of a right shape without Holes with these labels, one for each place.
func laid(s shape.Shape, labels []atom.Atom) ltype.Type {
	var lay func(s shape.Shape) ltype.Type
	take := func() atom.Atom {
		first := labels[0]
		labels = labels[1:]
		return first
	}
	lay = func(s shape.Shape) ltype.Type {
		t := ltype.Type{Kind: s.Kind, L: take()}
		if s.Kind == shape.Ref {
			t.C = take()
		}
		if s.Kind == shape.Fun {
			t.PC = take()
			t.X = take()
			given := lay(s.Kids[0])
			answered := lay(s.Kids[1])
			t.Kids = []ltype.Type{given, answered}
		}
		return t
	}
	return lay(s)
}

// count tells how many places a right shape has.
func count(s shape.Shape) int {
	switch s.Kind {
	case shape.Ref:
		return 2
	case shape.Fun:
		return 3 + count(s.Kids[0]) + count(s.Kids[1])
	}
	return 1
}

// shapesTo tells all shapes of these leaves, and Funs, of a Size of up to that.
func shapesTo(size int, leaves ...shape.Shape) []shape.Shape {
	of := make([][]shape.Shape, size+1)
	var all []shape.Shape
	for n := 1; n <= size; n++ {
		if n == 1 {
			of[n] = leaves
		}
		for i := 1; i < n-1; i++ {
			for _, a := range of[i] {
				for _, b := range of[n-1-i] {
					of[n] = append(of[n], fun(a, b))
				}
			}
		}
		all = append(all, of[n]...)
	}
	return all
}
