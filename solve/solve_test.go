package solve_test

import (
	"math"
	"slices"
	"testing"

	"chancel/atom"
	"chancel/lat"
	"chancel/solve"
)

var (
	two  = lat.Lat{Names: []string{"Lo", "Hi"}, Up: []uint64{3, 2}}
	four = lat.Lat{Names: []string{"L", "A", "B", "H"}, Up: []uint64{15, 10, 12, 8}}
)

// P11.1: a lattice that is right, and points that it has.
func TestKnown(t *testing.T) {
	for _, c := range []struct {
		c    []atom.Pair
		want bool
	}{
		{nil, true},
		{[]atom.Pair{}, true},
		{[]atom.Pair{pair(0, 1)}, true},
		{[]atom.Pair{pair(math.MaxInt, 64)}, true},
		{[]atom.Pair{pair(pt(0), pt(3))}, true},
		{[]atom.Pair{pair(pt(3), pt(0))}, true},
		{[]atom.Pair{pair(pt(4), 0)}, false},
		{[]atom.Pair{pair(0, pt(4))}, false},
		{[]atom.Pair{pair(pt(4), pt(4))}, false},
		{[]atom.Pair{pair(pt(1), pt(64))}, false},
		{[]atom.Pair{pair(math.MinInt, 1)}, false},
		{[]atom.Pair{pair(1, math.MinInt)}, false},
		{[]atom.Pair{pair(0, 1), pair(1, 0), pair(pt(2), 0), pair(0, pt(4))}, false},
		{[]atom.Pair{pair(pt(4), 0), pair(0, 1), pair(1, 0)}, false},
	} {
		if solve.Known(four, c.c) != c.want {
			t.Error(told(c.c))
		}
	}
	for n, l := range great() {
		last := len(l.Names) - 1
		if !solve.Known(l, []atom.Pair{pair(pt(0), 0), pair(0, pt(last))}) || solve.Known(l, []atom.Pair{pair(pt(0), pt(last+1))}) {
			t.Error(n)
		}
	}
}

// P11.1, P11.2: of a lattice that is not right nothing is known, and nothing solved.
func TestNotRight(t *testing.T) {
	for n, l := range wrong() {
		for _, c := range [][]atom.Pair{nil, {pair(0, 0)}, {pair(0, 1)}, {pair(pt(0), 0)}, {pair(pt(0), pt(0))}} {
			s, ok := solve.Least(l, c)
			if solve.Known(l, c) || ok || s != nil || solve.Solves(l, c, nil) || solve.Solves(l, c, []solve.Sol{{V: 0, P: 0}}) {
				t.Error(n, told(c))
			}
		}
	}
}

// P11.1: what an atom is at.
func TestValue(t *testing.T) {
	s := []solve.Sol{{V: 1, P: 2}, {V: 3, P: 3}, {V: 1, P: 0}, {V: 5, P: 4}, {V: 5, P: 1}, {V: 6, P: -1}, {V: 7, P: math.MaxInt}, {V: 8, P: math.MinInt}, {V: pt(2), P: 1}, {V: pt(4), P: 1}, {V: math.MaxInt, P: 1}, {V: 0, P: 0}}
	for a, want := range map[atom.Atom]int{0: 0, 1: 2, 2: 0, 3: 3, 4: 0, 5: -1, 6: -1, 7: -1, 8: -1, 9: 0, math.MaxInt: 1, math.MaxInt - 1: 0, pt(0): 0, pt(1): 1, pt(2): 2, pt(3): 3, pt(4): -1, pt(64): -1, math.MinInt: -1, math.MinInt + 1: -1} {
		if got := solve.Value(four, s, a); got != want {
			t.Error(a, got)
		}
	}
	if falling := fallingChain(3); solve.Value(falling, nil, 7) != 2 || solve.Value(falling, s, 1) != 2 || solve.Value(falling, s, 2) != 2 || solve.Value(falling, s, 0) != 0 {
		t.Error("a bottom that is not the first point")
	}
}

// P11.1: Value asks l to be right only of a variable without a Sol.
func TestValueNotRight(t *testing.T) {
	s := []solve.Sol{{V: 1, P: 0}, {V: 2, P: 1}, {V: 3, P: 69}, {V: 4, P: 70}, {V: 5, P: -1}}
	for n, l := range wrong() {
		for a := atom.Atom(-80); a < 8; a++ {
			if got := solve.Value(l, s, a); got != modelValue(l, s, a) {
				t.Error(n, a, got)
			}
		}
		if solve.Value(l, s, 0) != -1 || solve.Value(l, nil, 1) != -1 {
			t.Error(n)
		}
	}
	many := lat.Lat{Names: names(70)}
	if solve.Value(many, s, pt(69)) != 69 || solve.Value(many, s, 3) != 69 || solve.Value(many, s, pt(70)) != -1 || solve.Value(many, s, 4) != -1 {
		t.Error("points beyond the limit")
	}
	if solve.Value(lat.Lat{Up: four.Up}, s, pt(0)) != -1 || solve.Value(lat.Lat{Up: four.Up}, s, 1) != -1 {
		t.Error("rows make no points")
	}
}

// P11.1: what solves, and what does not.
func TestSolves(t *testing.T) {
	s := []solve.Sol{{V: 1, P: 2}, {V: 3, P: 3}, {V: 1, P: 0}, {V: pt(1), P: 3}}
	for i, c := range []struct {
		c    []atom.Pair
		want bool
	}{
		{nil, true},
		{[]atom.Pair{pair(1, 3)}, true},
		{[]atom.Pair{pair(3, 1)}, false},
		{[]atom.Pair{pair(1, 1), pair(3, 3), pair(9, 9)}, true},
		{[]atom.Pair{pair(1, pt(2))}, true},
		{[]atom.Pair{pair(1, pt(1))}, false},
		{[]atom.Pair{pair(1, pt(0))}, false},
		{[]atom.Pair{pair(8, 1)}, true},
		{[]atom.Pair{pair(1, 8)}, false},
		{[]atom.Pair{pair(8, 9), pair(9, 8), pair(8, pt(0))}, true},
		{[]atom.Pair{pair(pt(1), pt(1))}, true},
		{[]atom.Pair{pair(pt(3), pt(1))}, false},
		{[]atom.Pair{pair(pt(1), pt(3))}, true},
		{[]atom.Pair{pair(pt(1), pt(2))}, false},
		{[]atom.Pair{pair(pt(4), pt(4))}, false},
		{[]atom.Pair{pair(1, 3), pair(8, 1), pair(3, pt(2))}, false},
		{[]atom.Pair{pair(3, pt(2)), pair(1, 3), pair(8, 1)}, false},
	} {
		if solve.Solves(four, c.c, s) != c.want {
			t.Error(i, told(c.c))
		}
	}
	for _, p := range []int{-1, 4, 64, math.MaxInt, math.MinInt} {
		for _, v := range []atom.Atom{9, 1, pt(1), math.MinInt} { // none of these is asked for
			if solve.Solves(four, nil, []solve.Sol{{V: 1, P: 1}, {V: v, P: p}}) || solve.Solves(four, []atom.Pair{pair(2, 2)}, []solve.Sol{{V: v, P: p}, {V: 1, P: 1}}) {
				t.Error(v, p)
			}
		}
	}
}

// P11.2: the lowest points.
func TestLeast(t *testing.T) {
	for i, c := range []struct {
		l    lat.Lat
		c    []atom.Pair
		want []solve.Sol
		ok   bool
	}{
		{two, []atom.Pair{pair(pt(1), 0), pair(0, pt(0))}, nil, false},
		{two, nil, nil, true},
		{two, []atom.Pair{pair(pt(0), pt(1)), pair(pt(1), pt(1))}, nil, true},
		{two, []atom.Pair{pair(pt(1), pt(0))}, nil, false},
		{two, []atom.Pair{pair(pt(2), pt(2))}, nil, false},
		{two, []atom.Pair{pair(pt(2), 0)}, nil, false},
		{two, []atom.Pair{pair(0, pt(2))}, nil, false},
		{two, []atom.Pair{pair(0, 0)}, []solve.Sol{{V: 0, P: 0}}, true},
		{two, []atom.Pair{pair(9, 9), pair(3, 3), pair(pt(1), 3)}, []solve.Sol{{V: 3, P: 1}, {V: 9, P: 0}}, true},
		{two, []atom.Pair{pair(math.MaxInt, 0), pair(pt(1), math.MaxInt)}, []solve.Sol{{V: 0, P: 1}, {V: math.MaxInt, P: 1}}, true},
		{two, []atom.Pair{pair(0, 1), pair(pt(1), 1), pair(0, pt(0))}, []solve.Sol{{V: 0, P: 0}, {V: 1, P: 1}}, true},
		{two, []atom.Pair{pair(0, 1), pair(pt(1), 0), pair(1, pt(0))}, nil, false},
		{four, []atom.Pair{pair(pt(1), 0), pair(pt(2), 0)}, []solve.Sol{{V: 0, P: 3}}, true},
		{four, []atom.Pair{pair(pt(1), 0), pair(pt(2), 0), pair(0, pt(2))}, nil, false},
		{four, []atom.Pair{pair(pt(1), 0), pair(0, pt(2))}, nil, false},
		{four, []atom.Pair{pair(pt(1), pt(2))}, nil, false},
		{four, []atom.Pair{pair(2, 1), pair(1, 0), pair(pt(1), 1), pair(pt(2), 2)}, []solve.Sol{{V: 0, P: 3}, {V: 1, P: 3}, {V: 2, P: 2}}, true},
		{four, []atom.Pair{pair(0, 1), pair(1, 2), pair(2, 0), pair(pt(1), 1), pair(2, 3), pair(pt(2), 3), pair(4, 0)}, []solve.Sol{{V: 0, P: 1}, {V: 1, P: 1}, {V: 2, P: 1}, {V: 3, P: 3}, {V: 4, P: 0}}, true},
		{fallingChain(3), []atom.Pair{pair(0, 1), pair(pt(1), 1)}, []solve.Sol{{V: 0, P: 2}, {V: 1, P: 1}}, true},
		{lat.Lat{}, nil, nil, false},
	} {
		s, ok := solve.Least(c.l, c.c)
		if ok != c.ok || !slices.Equal(s, c.want) || !ok && s != nil {
			t.Error(i, told(c.c), s, ok)
		}
	}
}
