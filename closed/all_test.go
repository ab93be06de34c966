package closed_test

import (
	"math/rand"
	"slices"
	"testing"

	"chancel/atom"
	"chancel/closed"
	"chancel/lat"
)

// P12.1 to P12.3: all rows of a few pairs of the points of small lattices, and of a few variables, against the model.
func TestAll(t *testing.T) {
	for _, l := range small() {
		w := newWorld(l)
		atoms := atomsOf(l, 3)
		see := func(c []atom.Pair) {
			if f := fault(w, c, append(atoms, 7, pt(len(l.Names))), atoms); f != "" {
				t.Fatal(l, f)
			}
		}
		for n := range 3 {
			rows(n, pairs(atoms), see)
		}
		if len(l.Names) == 1 {
			rows(3, pairs(atoms), see)
		}
	}
}

// P12.2, P12.3: points that a lattice does not have, among those that it has.
func TestAllUnknown(t *testing.T) {
	for _, l := range append(small(), wrong()...) {
		w := newWorld(l)
		atoms := []atom.Atom{pt(len(l.Names)), pt(max(len(l.Names)-1, 0)), pt(0), 0, 1}
		for n := range 3 {
			rows(n, pairs(atoms), func(c []atom.Pair) {
				if f := fault(w, c, atoms, atoms); f != "" {
					t.Fatal(l, f)
				}
			})
		}
	}
}

// P12.3, P12.4: what is projected on each choice of variables, against the model, and against all solutions.
func TestAllProjected(t *testing.T) {
	const vars = 3
	for _, l := range small() {
		w := newWorld(l)
		keeps := some([]atom.Atom{2, 0, 1})
		longest := 2
		if len(l.Names) <= 2 {
			longest = 3
		}
		for n := range longest + 1 {
			rows(n, pairs(atomsOf(l, vars)), func(c []atom.Pair) {
				for _, keep := range keeps {
					projected(t, w, c, vars, keep)
				}
			})
		}
	}
}

// projected holds what is projected against the model, and against all solutions.
func projected(t *testing.T, w world, c []atom.Pair, vars int, keep []atom.Atom) {
	t.Helper()
	if f := projectFault(w, c, keep); f != "" {
		t.Fatal(w.Lat, keep, f)
	}
	solved := w.solutions(c, vars)
	if !slices.Contains(solved, true) {
		return
	}
	got := closed.Project(w.Lat, c, keep)
	if !slices.Equal(w.solutions(got, vars), w.forKept(solved, vars, keep)) {
		t.Fatal(w.Lat, keep, told(c), told(got))
	}
	for _, v := range atom.Vars(got) {
		if !slices.Contains(keep, v) {
			t.Fatal(w.Lat, keep, told(c), told(got))
		}
	}
}

// P12.2: what is said to follow holds in all solutions, and what holds in all of them is said to follow.
func TestAllEntailed(t *testing.T) {
	const vars = 3
	for _, l := range small() {
		w := newWorld(l)
		all := pairs(atomsOf(l, vars))
		rows(2, all, func(c []atom.Pair) {
			solved := w.solutions(c, vars)
			if !slices.Contains(solved, true) {
				return
			}
			for _, p := range all {
				both := w.solutions(append(slices.Clip(c), p), vars)
				if closed.Entails(l, c, p.A, p.B) != slices.Equal(both, solved) {
					t.Fatal(l, told(c), told([]atom.Pair{p}))
				}
			}
		})
	}
}

// chance tells n pairs of the points of l, and of so many variables, the points being rarer.
func chance(r *rand.Rand, l lat.Lat, n, vars, rare int) []atom.Pair {
	var c []atom.Pair
	for range n {
		p := pair(atom.Atom(r.Intn(vars)), atom.Atom(r.Intn(vars)))
		if r.Intn(rare) == 0 {
			p.A = pt(r.Intn(len(l.Names)))
		}
		if r.Intn(rare) == 0 {
			p.B = pt(r.Intn(len(l.Names)))
		}
		c = append(c, p)
	}
	return c
}

// choice tells n of so many variables, and of points.
func choice(r *rand.Rand, n, vars int) []atom.Atom {
	var keep []atom.Atom
	for range n {
		keep = append(keep, atom.Atom(r.Intn(vars+2)-1))
	}
	return keep
}

// P12.1 to P12.4: longer rows by chance, the same ones each time; the order of the pairs, and whether one stands there twice, does not matter.
func TestChance(t *testing.T) {
	r := rand.New(rand.NewSource(12))
	asked, between := 0, 0
	for _, l := range great() {
		w := newWorld(l)
		for range 250 {
			vars := 1 + r.Intn(30)
			c := chance(r, l, r.Intn(2*vars), vars, 3+r.Intn(40))
			keep := choice(r, r.Intn(2*vars), vars)
			if f := fault(w, c, choice(r, 5, vars), keep); f != "" {
				t.Fatal(l, keep, f)
			}
			got := closed.Project(l, c, keep)
			mixed := append(slices.Clone(c), c[:len(c)/2]...)
			r.Shuffle(len(mixed), func(i, j int) { mixed[i], mixed[j] = mixed[j], mixed[i] })
			r.Shuffle(len(keep), func(i, j int) { keep[i], keep[j] = keep[j], keep[i] })
			if again := closed.Project(l, mixed, keep); !slices.Equal(again, got) {
				t.Fatal(l, told(mixed), told(got), told(again))
			}
			asked += len(got)
			for _, p := range got {
				if p.A >= 0 && p.B >= 0 {
					between++
				}
			}
		}
	}
	if between < 10000 || asked-between < 5000 {
		t.Error(asked, between)
	}
}

// P12.4: few variables, more pairs, by chance, against all solutions.
func TestChanceProjected(t *testing.T) {
	r := rand.New(rand.NewSource(13))
	for _, l := range []lat.Lat{chain(3), cube(2), fan(5), uneven(), cube(3)} {
		w := newWorld(l)
		for range 1000 {
			c := chance(r, l, r.Intn(9), 4, 3)
			projected(t, w, c, 4, choice(r, r.Intn(5), 4))
		}
	}
}

// P12.3: more rings that are kept than a word has bits, each of many variables, against the model.
func TestChanceGreat(t *testing.T) {
	r := rand.New(rand.NewSource(14))
	for _, l := range []lat.Lat{two, cube(6), fan(64)} {
		w := newWorld(l)
		for _, n := range []int{100, 200, 250, 300, 400} {
			const vars = 200
			c := chance(r, l, n, vars, 100)
			keep := choice(r, 300, vars)
			if f := projectFault(w, c, keep); f != "" {
				t.Fatal(l, keep, f)
			}
		}
	}
}

// P3, P4: what is handed in stays as it is, and so does what stands behind it; what is told is new memory, and the same again.
func TestMemory(t *testing.T) {
	all := []atom.Pair{pair(3, 4), pair(pt(1), 3), pair(7, 7), pair(4, 0), pair(0, pt(3)), pair(9, 4), pair(4, 9)}
	atoms := []atom.Atom{9, 4, 0, 3, 9, pt(2), 7}
	l := lat.Lat{Names: append(slices.Clone(four.Names), "spare")[:4], Up: append(slices.Clone(four.Up), 99)[:4]}
	c, keep := all[:6], atoms[:5]
	wasAll, wasAtoms := slices.Clone(all), slices.Clone(atoms)
	want := []atom.Pair{pair(pt(1), 0), pair(pt(1), 3), pair(pt(1), 4), pair(3, 0), pair(3, 4), pair(4, 0), pair(9, 0), pair(9, 4)}
	for range 3 {
		got := closed.Project(l, c, keep)
		if !slices.Equal(got, want) || closed.Low(l, c, 4) != 1 || closed.High(l, c, 4) != 3 || !closed.Reach(c, 9, 0) || !closed.Entails(l, c, pt(1), 0) {
			t.Error(told(got))
		}
		clear(got)
		_ = append(got, pair(55, 56))
	}
	if !slices.Equal(all, wasAll) || !slices.Equal(atoms, wasAtoms) || !slices.Equal(l.Names, four.Names) || !slices.Equal(l.Up, four.Up) || l.Names[:5][4] != "spare" || l.Up[:5][4] != 99 {
		t.Error(told(all), atoms, l)
	}
}
