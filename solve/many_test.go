package solve_test

import (
	"math/rand"
	"testing"

	"chancel/atom"
	"chancel/lat"
	"chancel/solve"
)

const many = 1 << 20

// at holds what is least of c against what each of so many variables is at.
func at(t *testing.T, name string, l lat.Lat, c []atom.Pair, vars int, want func(v int) int) {
	t.Helper()
	s, ok := solve.Least(l, c)
	if !ok || len(s) != vars || !solve.Solves(l, c, s) {
		t.Fatal(name, len(s), ok)
	}
	for v, x := range s {
		if int(x.V) != v || x.P != want(v) {
			t.Fatal(name, v, x)
		}
	}
}

// P1, P11.2: rows as long as programs come to, in a time that rises no faster than they do: each way from each variable to the next, with points at some of them.
func TestMany(t *testing.T) {
	l := chain(64)
	var up, down, ring, star, fans []atom.Pair
	for v := range atom.Atom(many - 1) {
		up = append(up, pair(v, v+1))
		down = append(down, pair(v+1, v))
		ring = append(ring, pair(v, v+1))
		star = append(star, pair(0, v+1))
		fans = append(fans, pair(v+1, 0), pair(0, v+1))
	}
	ring = append(ring, pair(many-1, 0))
	const part = many / 64
	var rising, falling []atom.Pair
	for p := range 64 {
		rising = append(rising, pair(pt(p), atom.Atom(p*part)))
		falling = append(falling, pair(pt(63-p), atom.Atom(p*part)))
	}
	byPart := func(v int) int { return v / part }
	fromEnd := func(v int) int { return 63 - (v+part-1)/part }
	top := func(int) int { return 63 }
	at(t, "up", l, append(up, rising...), many, byPart)
	at(t, "up, points first", l, append(rising, up...), many, byPart)
	at(t, "up, at the beginning", l, append(up, falling...), many, top)
	at(t, "down", l, append(down, falling...), many, func(v int) int { return max(fromEnd(v), 0) })
	at(t, "down, at the end", l, append(down, pair(pt(63), many-1)), many, top)
	at(t, "ring", l, append(ring, rising...), many, top)
	at(t, "ring, the other way", l, append(falling, ring...), many, top)
	at(t, "star", l, append(star, rising[:1]...), many, func(int) int { return 0 })
	at(t, "star, from the middle", l, append(star, pair(pt(63), 0)), many, top)
	at(t, "in and out", l, append(fans, rising...), many, top)
	at(t, "in and out, the other way", l, append(falling, fans...), many, top)
}

// P1, P11.2: rows of which each variable rises as often as the lattice lets it.
func TestManyTimes(t *testing.T) {
	l := cube(6)
	var c []atom.Pair
	for v := range atom.Atom(many - 1) {
		c = append(c, pair(v, v+1), pair(v, v/2), pair(many-1-v, v))
	}
	for i := range 6 {
		c = append(c, pair(pt(1<<i), atom.Atom(i*1000)))
	}
	at(t, "cube", l, c, many, func(int) int { return 63 })
	if s, ok := solve.Least(l, append(c, pair(many/2, pt(62)))); ok || s != nil {
		t.Error("what is asked below a point")
	}
	if s, ok := solve.Least(l, append(c, pair(pt(64), pt(64)))); ok || s != nil {
		t.Error("no point")
	}
}

// P1, P11.1: lists of Sols as long, each variable standing there more than once.
func TestManySols(t *testing.T) {
	r := rand.New(rand.NewSource(13))
	l := chain(64)
	var c []atom.Pair
	var s []solve.Sol
	for v := range many {
		c = append(c, pair(atom.Atom(v), atom.Atom(v+many/4)))
		s = append(s, solve.Sol{V: atom.Atom(v), P: v * 64 / many})
	}
	s = append(s, solve.Sol{V: many + many/4, P: 63})
	for v := many; v < many+many/4; v++ {
		s = append(s, solve.Sol{V: atom.Atom(v), P: 63})
	}
	for range many {
		s = append(s, solve.Sol{V: atom.Atom(r.Intn(many)), P: r.Intn(64)})
	}
	if !solve.Solves(l, c, s) || solve.Value(l, s, many-1) != 63 || solve.Value(l, s, 2*many) != 0 {
		t.Error("all")
	}
	if solve.Solves(l, c, s[:many]) || solve.Solves(l, c, append(s, solve.Sol{V: 0, P: 64})) || solve.Solves(l, append(c, pair(many-1, 0)), s) {
		t.Error("not all")
	}
}
