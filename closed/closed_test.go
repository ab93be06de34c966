package closed_test

import (
	"math"
	"slices"
	"testing"

	"chancel/atom"
	"chancel/closed"
	"chancel/lat"
)

var (
	two  = lat.Lat{Names: []string{"Lo", "Hi"}, Up: []uint64{3, 2}}
	four = lat.Lat{Names: []string{"L", "A", "B", "H"}, Up: []uint64{15, 10, 12, 8}}
)

// P12.1: ways of no Pair, of one, of more.
func TestReach(t *testing.T) {
	line := []atom.Pair{pair(2, 3), pair(0, 1), pair(1, 2)}
	ring := []atom.Pair{pair(0, 1), pair(1, 2), pair(2, 0), pair(2, 3), pair(5, 0)}
	for i, c := range []struct {
		c    []atom.Pair
		a, b atom.Atom
		want bool
	}{
		{nil, 0, 0, true}, {nil, 0, 1, false}, {[]atom.Pair{}, pt(3), pt(3), true}, {nil, pt(3), pt(4), false}, {nil, math.MaxInt, math.MaxInt, true}, {nil, math.MinInt, math.MinInt, true},
		{line, 0, 1, true}, {line, 0, 2, true}, {line, 0, 3, true}, {line, 1, 3, true}, {line, 3, 0, false}, {line, 1, 0, false}, {line, 9, 9, true}, {line, 9, 0, false}, {line, 0, 9, false}, {line, 3, 3, true},
		{ring, 0, 0, true}, {ring, 0, 2, true}, {ring, 2, 1, true}, {ring, 1, 0, true}, {ring, 1, 3, true}, {ring, 3, 1, false}, {ring, 5, 3, true}, {ring, 0, 5, false},
		{[]atom.Pair{pair(4, 4)}, 4, 4, true}, {[]atom.Pair{pair(4, 4)}, 4, 5, false}, {[]atom.Pair{pair(4, 4)}, 5, 4, false},
		{[]atom.Pair{pair(0, 1), pair(0, 2), pair(0, 3), pair(2, 7)}, 0, 7, true},
		{[]atom.Pair{pair(0, 1), pair(2, 1), pair(2, 3)}, 0, 3, false},
		{[]atom.Pair{pair(math.MaxInt, 0), pair(0, math.MinInt)}, math.MaxInt, math.MinInt, true},
	} {
		if closed.Reach(c.c, c.a, c.b) != c.want {
			t.Error(i, told(c.c), c.a, c.b)
		}
	}
}

// P12.1: a way may begin and end at a point, but goes on through none.
func TestReachPoints(t *testing.T) {
	c := []atom.Pair{pair(0, pt(1)), pair(pt(1), 1), pair(pt(0), 0), pair(1, pt(2)), pair(pt(2), pt(3)), pair(pt(3), 4), pair(0, 5), pair(5, pt(99))}
	for i, x := range []struct {
		a, b atom.Atom
		want bool
	}{
		{0, pt(1), true}, {0, 1, false}, {0, pt(2), false}, {pt(1), 1, true}, {pt(1), pt(2), true}, {pt(1), pt(3), false}, {pt(1), 4, false},
		{pt(0), 0, true}, {pt(0), pt(1), true}, {pt(0), 1, false}, {pt(2), pt(3), true}, {pt(2), 4, false}, {pt(3), 4, true}, {pt(3), pt(2), false},
		{pt(0), pt(99), true}, {pt(99), pt(99), true}, {pt(99), 0, false}, {pt(1), 0, false},
	} {
		if closed.Reach(c, x.a, x.b) != x.want {
			t.Error(i, x)
		}
	}
	back := []atom.Pair{pair(pt(1), 0), pair(0, pt(1)), pair(0, 1), pair(pt(1), 2)}
	for _, b := range []atom.Atom{0, 1, 2, pt(1)} {
		if !closed.Reach(back, pt(1), b) || closed.Reach(back, 0, b) != (b != 2) {
			t.Error(b)
		}
	}
}

// P12.2: points from which ways lead to a variable, and to which ways lead from it.
func TestLowHigh(t *testing.T) {
	c := []atom.Pair{
		pair(pt(1), 0), pair(0, 1), pair(pt(2), 1), pair(1, 2), // up: A; A and B; both
		pair(3, 4), pair(4, pt(1)), pair(3, 5), pair(5, pt(2)), // down: both; A; B
		pair(6, pt(3)), pair(pt(0), 6), // of Top and Bottom
		pair(7, pt(2)), pair(pt(2), 8), // not through a point
		pair(pt(1), 9), pair(9, 10), pair(10, 9), pair(10, pt(2)), // a ring, with no solution
	}
	for a, want := range map[atom.Atom][2]int{
		0: {1, 3}, 1: {3, 3}, 2: {3, 3},
		3: {0, 0}, 4: {0, 1}, 5: {0, 2},
		6: {0, 3}, 7: {0, 2}, 8: {2, 3}, 9: {1, 2}, 10: {1, 2}, 11: {0, 3}, math.MaxInt: {0, 3},
		pt(0): {0, 0}, pt(1): {1, 1}, pt(2): {2, 2}, pt(3): {3, 3}, pt(4): {-1, -1}, pt(64): {-1, -1}, math.MinInt: {-1, -1},
	} {
		if low, high := closed.Low(four, c, a), closed.High(four, c, a); low != want[0] || high != want[1] {
			t.Error(a, low, high)
		}
	}
	falling := fallingChain(4)
	for a, want := range map[atom.Atom][2]int{0: {1, 0}, 1: {1, 0}, 3: {3, 2}, 4: {3, 1}, 5: {3, 2}, 11: {3, 0}, pt(1): {1, 1}} {
		if low, high := closed.Low(falling, c, a), closed.High(falling, c, a); low != want[0] || high != want[1] {
			t.Error("falling", a, low, high)
		}
	}
	if closed.Low(four, nil, 0) != 0 || closed.High(four, nil, 0) != 3 || closed.Low(four, nil, pt(2)) != 2 || closed.High(four, nil, pt(2)) != 2 || closed.Low(four, nil, pt(4)) != -1 {
		t.Error("no pairs")
	}
	if one := chain(1); closed.Low(one, c[:0], 0) != 0 || closed.High(one, []atom.Pair{pair(0, pt(0))}, 0) != 0 || closed.Low(one, c, 0) != -1 {
		t.Error("one point")
	}
}

// P12.2: what follows, of ways, of points, and of both.
func TestEntails(t *testing.T) {
	c := []atom.Pair{pair(0, 1), pair(1, 2), pair(2, pt(1)), pair(pt(1), 3), pair(pt(2), 0), pair(4, 0), pair(5, pt(0)), pair(pt(3), 6), pair(7, pt(2)), pair(pt(2), 8)}
	for i, x := range []struct {
		a, b atom.Atom
		want bool
	}{
		{0, 0, true}, {0, 1, true}, {0, 2, true}, {2, 0, false}, {4, 2, true},
		{0, 3, true}, {3, 0, false}, {3, 8, false}, {7, 8, true}, {7, 3, false}, {0, 8, false},
		{5, 9, true}, {9, 6, true}, {5, 6, true}, {9, 5, false}, {6, 9, false}, {9, 10, false}, {9, 9, true},
		{0, pt(1), true}, {0, pt(3), true}, {0, pt(2), false}, {5, pt(0), true}, {9, pt(3), true}, {9, pt(2), false},
		{pt(2), 0, true}, {pt(2), 2, true}, {pt(0), 0, true}, {pt(1), 0, false}, {pt(3), 6, true}, {pt(0), 9, true}, {pt(1), 9, false},
		{pt(2), pt(1), true}, {pt(1), pt(2), false}, {pt(1), pt(3), true}, {pt(1), pt(1), true}, {pt(3), pt(0), false},
		{0, pt(4), false}, {pt(4), 0, false}, {pt(4), pt(4), false}, {math.MinInt, math.MinInt, false}, {pt(4), 6, false}, {5, pt(4), false},
	} {
		if closed.Entails(four, c, x.a, x.b) != x.want {
			t.Error(i, x)
		}
	}
	if !closed.Entails(two, nil, 0, 0) || closed.Entails(two, nil, 0, 1) || !closed.Entails(two, nil, pt(0), pt(1)) || closed.Entails(two, nil, pt(1), pt(0)) || !closed.Entails(chain(1), nil, 0, 1) {
		t.Error("no pairs")
	}
}

// P12.2, P12.3: of a lattice that is not right, and of points that it has not, nothing is told.
func TestUnknown(t *testing.T) {
	atoms := []atom.Atom{0, 1, pt(0), pt(1), pt(69), pt(70)}
	keep := []atom.Atom{0, 1}
	see := func(l lat.Lat, c []atom.Pair) {
		for _, a := range atoms {
			if low, high := closed.Low(l, c, a), closed.High(l, c, a); low != -1 || high != -1 {
				t.Error(l, told(c), a, low, high)
			}
			for _, b := range atoms {
				if closed.Entails(l, c, a, b) {
					t.Error(l, told(c), a, b)
				}
			}
		}
		if got := closed.Project(l, c, keep); got != nil {
			t.Error(l, told(c), told(got))
		}
	}
	for _, l := range wrong() {
		for _, c := range [][]atom.Pair{nil, {pair(0, 1)}, {pair(pt(1), 0)}, {pair(0, pt(1))}, {pair(pt(0), 0), pair(0, 1), pair(1, pt(1))}} {
			see(l, c)
		}
	}
	for _, l := range append(small(), great()...) {
		beyond := pt(len(l.Names))
		for _, p := range []atom.Pair{pair(0, beyond), pair(beyond, 0), pair(beyond, beyond), pair(math.MinInt, 5), pair(pt(0), math.MinInt)} {
			see(l, []atom.Pair{p})
			see(l, []atom.Pair{pair(0, 1), p, pair(pt(0), 1)})
		}
		if closed.Low(l, nil, beyond) != -1 || closed.High(l, nil, beyond) != -1 || closed.Entails(l, nil, beyond, beyond) || closed.Low(l, nil, beyond+1) != len(l.Names)-1 {
			t.Error(l)
		}
	}
}

// P12.3: what is asked of the variables that are kept.
func TestProject(t *testing.T) {
	line := []atom.Pair{pair(0, 1), pair(1, 2)}
	for i, c := range []struct {
		l    lat.Lat
		c    []atom.Pair
		keep []atom.Atom
		want []atom.Pair
	}{
		{two, line, []atom.Atom{0, 2}, []atom.Pair{pair(0, 2)}},
		{two, line, []atom.Atom{2, 1, 0, 2}, []atom.Pair{pair(0, 1), pair(0, 2), pair(1, 2)}},
		{two, line, []atom.Atom{1}, nil},
		{two, line, nil, nil},
		{two, nil, []atom.Atom{0, 1}, nil},
		{two, line, []atom.Atom{7, 8, math.MaxInt, pt(0), pt(1), pt(9), math.MinInt}, nil},
		{two, line, []atom.Atom{pt(9), 2, pt(0), 0}, []atom.Pair{pair(0, 2)}},
		{two, []atom.Pair{pair(0, 0), pair(1, 1)}, []atom.Atom{0, 0, 1}, nil},
		{two, []atom.Pair{pair(0, 1), pair(1, 0)}, []atom.Atom{1, 0}, []atom.Pair{pair(0, 1), pair(1, 0)}},
		{two, []atom.Pair{pair(0, 1), pair(1, 2), pair(2, 0), pair(2, 3)}, []atom.Atom{3, 0, 2}, []atom.Pair{pair(0, 2), pair(0, 3), pair(2, 0), pair(2, 3)}},
		// Bounds, but those of Bottom and Top.
		{two, []atom.Pair{pair(pt(1), 0)}, []atom.Atom{0}, []atom.Pair{pair(pt(1), 0)}},
		{two, []atom.Pair{pair(0, pt(0))}, []atom.Atom{0}, []atom.Pair{pair(0, pt(0))}},
		{two, []atom.Pair{pair(pt(0), 0), pair(0, pt(1))}, []atom.Atom{0}, nil},
		{fallingChain(2), []atom.Pair{pair(pt(0), 0), pair(1, pt(1))}, []atom.Atom{0, 1}, []atom.Pair{pair(pt(0), 0), pair(1, pt(1))}},
		{fallingChain(2), []atom.Pair{pair(pt(1), 0), pair(1, pt(0))}, []atom.Atom{0, 1}, nil},
		{four, []atom.Pair{pair(pt(1), 0), pair(pt(2), 1), pair(0, 2), pair(1, 2)}, []atom.Atom{2}, []atom.Pair{pair(pt(3), 2)}},
		{four, []atom.Pair{pair(0, 1), pair(0, 2), pair(1, pt(1)), pair(2, pt(2))}, []atom.Atom{0}, []atom.Pair{pair(0, pt(0))}},
		{four, []atom.Pair{pair(pt(1), 0), pair(0, 1), pair(1, pt(3))}, []atom.Atom{1}, []atom.Pair{pair(pt(1), 1)}},
		{chain(1), line, []atom.Atom{0, 1, 2}, nil},
		// What points ask already is left out.
		{two, []atom.Pair{pair(0, 1), pair(pt(1), 1)}, []atom.Atom{0, 1}, []atom.Pair{pair(pt(1), 1)}},
		{two, []atom.Pair{pair(0, 1), pair(0, pt(0))}, []atom.Atom{0, 1}, []atom.Pair{pair(0, pt(0))}},
		{four, []atom.Pair{pair(0, 1), pair(0, pt(1)), pair(pt(1), 1)}, []atom.Atom{0, 1}, []atom.Pair{pair(pt(1), 1), pair(0, pt(1))}},
		{four, []atom.Pair{pair(0, 1), pair(0, pt(1)), pair(pt(2), 1)}, []atom.Atom{0, 1}, []atom.Pair{pair(pt(2), 1), pair(0, pt(1)), pair(0, 1)}},
		{chain(3), []atom.Pair{pair(0, 1), pair(1, 2), pair(0, pt(1)), pair(pt(1), 2)}, []atom.Atom{0, 1, 2}, []atom.Pair{pair(pt(1), 2), pair(0, pt(1)), pair(0, 1), pair(1, 2)}},
		// A way over what has no solution.
		{two, []atom.Pair{pair(pt(1), 0), pair(0, 1), pair(1, pt(0))}, []atom.Atom{0, 1}, []atom.Pair{pair(pt(1), 0), pair(pt(1), 1), pair(0, pt(0)), pair(1, pt(0))}},
		{four, []atom.Pair{pair(pt(1), 0), pair(0, 1), pair(1, pt(2))}, []atom.Atom{0, 1}, []atom.Pair{pair(pt(1), 0), pair(pt(1), 1), pair(0, pt(2)), pair(0, 1), pair(1, pt(2))}},
		{two, []atom.Pair{pair(pt(1), pt(0)), pair(0, 1)}, []atom.Atom{0, 1}, []atom.Pair{pair(0, 1)}},
		// A point is no way on.
		{four, []atom.Pair{pair(0, pt(2)), pair(pt(2), 1), pair(2, pt(1)), pair(pt(1), 1)}, []atom.Atom{0, 1, 2}, []atom.Pair{pair(pt(3), 1), pair(0, pt(2)), pair(2, pt(1))}},
		{four, []atom.Pair{pair(math.MaxInt, 0), pair(pt(3), math.MaxInt-1)}, []atom.Atom{math.MaxInt, 0, math.MaxInt - 1}, []atom.Pair{pair(pt(3), math.MaxInt-1), pair(math.MaxInt, 0)}},
	} {
		if got := closed.Project(c.l, c.c, c.keep); !slices.Equal(got, c.want) {
			t.Error(i, told(c.c), told(got))
		}
	}
}
