package closed_test

import (
	"slices"
	"testing"

	"chancel/atom"
	"chancel/closed"
	"chancel/lat"
)

const many = 1 << 20

// asks holds what is projected, without a look at a model.
func asks(t *testing.T, name string, l lat.Lat, c []atom.Pair, keep []atom.Atom, want []atom.Pair) {
	t.Helper()
	if got := closed.Project(l, c, keep); !slices.Equal(got, want) {
		t.Error(name, len(got), told(got[:min(len(got), 5)]))
	}
}

// line tells a way through so many variables, from 0 on.
func line(n int) []atom.Pair {
	var c []atom.Pair
	for v := range atom.Atom(n - 1) {
		c = append(c, pair(v, v+1))
	}
	return c
}

// upTo tells the variables below n that stand by apart.
func upTo(n, by int) []atom.Atom {
	var l []atom.Atom
	for v := 0; v < n; v += by {
		l = append(l, atom.Atom(v))
	}
	return l
}

// rising tells all pairs of these, from each to those behind it.
func rising(l []atom.Atom) []atom.Pair {
	var c []atom.Pair
	for i, v := range l {
		for _, w := range l[i+1:] {
			c = append(c, pair(v, w))
		}
	}
	return c
}

// P1, P12.1, P12.2: ways as long as programs come to.
func TestManyReach(t *testing.T) {
	l := chain(64)
	c := append(line(many), pair(pt(9), many/2), pair(pt(3), 0), pair(many/2, pt(60)), pair(many-1, pt(63)))
	if !closed.Reach(c, 0, many-1) || closed.Reach(c, many-1, 0) || !closed.Reach(c, pt(3), pt(63)) {
		t.Error("Reach")
	}
	if closed.Low(l, c, many-1) != 9 || closed.High(l, c, 0) != 60 {
		t.Error("Low, High")
	}
	slices.Reverse(c)
	if !closed.Entails(l, c, 5, many-1) || closed.Entails(l, c, many-1, 5) || closed.Entails(l, c, pt(10), many-1) {
		t.Error("Entails")
	}
}

// P1, P12.3: long rows, few variables being kept, and many.
func TestManyProject(t *testing.T) {
	l := chain(64)
	up := line(many)
	ring := append(slices.Clone(up), pair(many-1, 0))
	asks(t, "ends", l, up, []atom.Atom{0, many - 1}, []atom.Pair{pair(0, many-1)})
	few := upTo(many, many/1000)
	asks(t, "line", l, up, few, rising(few))
	asks(t, "line, each many times", l, up, slices.Repeat([]atom.Atom{0, many - 1, pt(1)}, many/2), []atom.Pair{pair(0, many-1)})
	var both []atom.Pair
	for _, v := range few {
		for _, w := range few {
			if v != w {
				both = append(both, pair(v, w))
			}
		}
	}
	asks(t, "ring", l, ring, few, both)
	slices.Reverse(ring)
	asks(t, "ring, the other way", l, ring, few, both)
	var star, stars []atom.Pair
	for v := range atom.Atom(many - 1) {
		star = append(star, pair(0, v+1))
	}
	asks(t, "star", l, star, upTo(many, 1), star)
	for v := atom.Atom(0); v < many; v += 2 {
		stars = append(stars, pair(v, v+1))
	}
	asks(t, "apart", l, stars, upTo(many, 1), stars)
	asks(t, "apart, half", l, stars, upTo(many, 2), nil)
}

// P1, P12.3: long rows with points, by which most of what is asked between variables is left out.
func TestManyPoints(t *testing.T) {
	l := chain(64)
	up := line(many)
	var fixed, want []atom.Pair
	for v := range atom.Atom(many) {
		want = append(want, pair(pt(7), v))
		fixed = append(fixed, pair(v, pt(7)))
	}
	asks(t, "at a point", l, append(slices.Clone(up), pair(pt(7), 0), pair(many-1, pt(7))), upTo(many, 1), append(want, fixed...))
	asks(t, "at the top", l, append(slices.Clone(up), pair(pt(63), 0)), []atom.Atom{0, many - 1}, []atom.Pair{pair(pt(63), 0), pair(pt(63), many-1)})
	var steps, bounds []atom.Pair
	for p := range 64 {
		v := atom.Atom(p * many / 64)
		steps = append(steps, pair(pt(p), v), pair(v, pt(p)))
		if p > 0 {
			bounds = append(bounds, pair(pt(p), v))
		}
		if p < 63 {
			bounds = append(bounds, pair(v, pt(p)))
		}
	}
	asks(t, "up", l, append(steps, up...), upTo(many, many/64), atom.Norm(bounds))
}

// P1, P12.3: rows in which each variable is met on very many ways.
func TestManyWays(t *testing.T) {
	l := cube(6)
	const wide, deep = 100, 100
	var c []atom.Pair
	for d := range deep - 1 {
		for a := range wide {
			for b := range wide {
				c = append(c, pair(atom.Atom(d*wide+a), atom.Atom((d+1)*wide+b)))
			}
		}
	}
	var want []atom.Pair
	last := atom.Atom((deep - 1) * wide)
	for a := range atom.Atom(wide) {
		for b := range atom.Atom(wide) {
			want = append(want, pair(a, last+b))
		}
	}
	keep := append(upTo(wide, 1), upTo(wide*deep, 1)[last:]...)
	asks(t, "all to all", l, c, keep, want)
	for i := range 6 {
		c = append(c, pair(pt(1<<i), atom.Atom(i)))
	}
	for b := range atom.Atom(wide) {
		c = append(c, pair(last+b, pt(62)))
	}
	if got := closed.Project(l, c, keep); len(got) != 6+wide+wide+wide || closed.Low(l, c, last) != 63 || closed.High(l, c, 0) != 62 {
		t.Error(len(got), closed.Low(l, c, last), closed.High(l, c, 0))
	}
}
