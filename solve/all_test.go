package solve_test

import (
	"math/rand"
	"slices"
	"testing"

	"chancel/atom"
	"chancel/lat"
	"chancel/solve"
)

// least holds what is least of c against the model.
func least(t *testing.T, l lat.Lat, c []atom.Pair) {
	t.Helper()
	s, ok := solve.Least(l, c)
	want, wantOK := modelLeast(l, c)
	if ok != wantOK || !slices.Equal(s, want) || !ok && s != nil {
		t.Fatal(l, told(c), s, ok)
	}
	if solve.Known(l, c) != modelKnown(l, c) {
		t.Fatal(l, told(c), "Known")
	}
}

// P11.2: all rows of a few pairs of the points of small lattices, and of a few variables, against the model.
func TestAll(t *testing.T) {
	for _, l := range small() {
		longest := map[int]int{1: 4, 2: 3, 3: 3}[len(l.Names)]
		for n := range max(longest, 2) + 1 {
			rows(n, pairs(atomsOf(l, 3)), func(c []atom.Pair) { least(t, l, c) })
		}
		rows(3, pairs(atomsOf(l, 2)), func(c []atom.Pair) { least(t, l, c) })
	}
	seen := 0
	rows(4, pairs(atomsOf(two, 2)), func(c []atom.Pair) {
		least(t, two, c)
		seen++
	})
	if seen != 16*16*16*16 {
		t.Error(seen)
	}
}

// P11.1, P11.2: points that a lattice does not have, among those that it has.
func TestAllUnknown(t *testing.T) {
	for _, l := range small() {
		atoms := []atom.Atom{pt(len(l.Names)), pt(len(l.Names) - 1), pt(0), 0, 1}
		for n := range 3 {
			rows(n, pairs(atoms), func(c []atom.Pair) { least(t, l, c) })
		}
	}
}

// P11.1: all short lists of Sols, right and not, for all short rows of pairs.
func TestAllLists(t *testing.T) {
	for _, l := range append(small(), wrong()...) {
		atoms := []atom.Atom{pt(len(l.Names)), pt(1), pt(0), 0, 1, 2}
		for n := range 3 {
			rows(n, sols(atoms[1:], []int{-1, 0, 1, len(l.Names) - 1, len(l.Names)}), func(s []solve.Sol) {
				for _, a := range atoms {
					if got := solve.Value(l, s, a); got != modelValue(l, s, a) {
						t.Fatal(l, s, a, got)
					}
				}
				for m := range 2 {
					rows(m, pairs(atoms), func(c []atom.Pair) {
						if solve.Solves(l, c, s) != modelSolves(l, c, s) {
							t.Fatal(l, told(c), s)
						}
					})
				}
			})
		}
	}
}

// P11.1: all lists for two variables, for all rows of two pairs.
func TestAllSolves(t *testing.T) {
	for _, l := range small() {
		vars := []atom.Atom{0, 1}
		rows(2, pairs(atomsOf(l, 2)), func(c []atom.Pair) {
			for _, s := range modelLists(l, vars) {
				if solve.Solves(l, c, s) != modelSolves(l, c, s) {
					t.Fatal(l, told(c), s)
				}
			}
		})
	}
}

// P11.3: with one more pair what is least is above, or there is none.
func TestMore(t *testing.T) {
	for _, l := range small() {
		rows(2, pairs(atomsOf(l, 3)), func(c []atom.Pair) {
			s, ok := solve.Least(l, c)
			for _, p := range pairs(atomsOf(l, 2)) {
				more, also := solve.Least(l, append(slices.Clip(c), p))
				if also && (!ok || !isBelow(l, s, more)) {
					t.Fatal(l, told(c), p, s, more)
				}
			}
		})
	}
}

// chance tells n pairs of the points of l, and of so many variables, the points being rare, and rarer on the right.
func chance(r *rand.Rand, l lat.Lat, n, vars int) []atom.Pair {
	var c []atom.Pair
	for range n {
		p := pair(atom.Atom(r.Intn(vars)), atom.Atom(r.Intn(vars)))
		if r.Intn(6) == 0 {
			p.A = pt(r.Intn(len(l.Names)))
		}
		if r.Intn(20) == 0 {
			p.B = pt(r.Intn(len(l.Names)))
		}
		c = append(c, p)
	}
	return c
}

// P11.2, P11.3: longer rows by chance, the same ones each time; the order of the pairs, and whether one stands there twice, does not matter.
func TestChance(t *testing.T) {
	r := rand.New(rand.NewSource(11))
	solved := 0
	for _, l := range great() {
		joins := joinsOf(l)
		var last []solve.Sol
		for range 1000 {
			vars := 1 + r.Intn(30)
			c := chance(r, l, r.Intn(3*vars), vars)
			s, ok := solve.Least(l, c)
			want, wantOK := roundsLeast(l, joins, c)
			if ok != wantOK || !slices.Equal(s, want) {
				t.Fatal(l, told(c), s, ok, want)
			}
			mixed := append(slices.Clone(c), c[:len(c)/2]...)
			r.Shuffle(len(mixed), func(i, j int) { mixed[i], mixed[j] = mixed[j], mixed[i] })
			if again, also := solve.Least(l, mixed); also != ok || !slices.Equal(again, s) {
				t.Fatal(l, told(mixed), s, again)
			}
			if ok {
				solved++
				if !solve.Solves(l, c, s) {
					t.Fatal(l, told(c), s)
				}
			}
			if got := solve.Solves(l, c, last); got != modelSolves(l, c, last) {
				t.Fatal(l, told(c), last)
			}
			last = append(s, last[:min(len(last), 10)]...)
		}
	}
	if solved < 1500 || solved > 7000 {
		t.Error(solved)
	}
}

// P11.2: few variables of greater lattices, against all lists.
func TestChanceAll(t *testing.T) {
	r := rand.New(rand.NewSource(12))
	for _, l := range []lat.Lat{grid(3), cube(3), chain(10), fan(10), uneven()} {
		for range 1500 {
			least(t, l, chance(r, l, r.Intn(7), 3))
		}
	}
}

// P3, P4: what is handed in stays as it is, and so does what stands behind it; what is told is new memory, and the same again.
func TestMemory(t *testing.T) {
	all := []atom.Pair{pair(3, 4), pair(pt(1), 3), pair(7, 7), pair(pt(2), 0), pair(4, pt(3)), pair(pt(3), 7)}
	sol := []solve.Sol{{V: 3, P: 1}, {V: 4, P: 3}, {V: 0, P: 2}, {V: 9, P: 99}}
	l := lat.Lat{Names: append(slices.Clone(four.Names), "spare")[:4], Up: append(slices.Clone(four.Up), 99)[:4]}
	c, s := all[:5], sol[:3]
	wasAll, wasSol := slices.Clone(all), slices.Clone(sol)
	want := []solve.Sol{{V: 0, P: 2}, {V: 3, P: 1}, {V: 4, P: 1}, {V: 7, P: 0}}
	for range 3 {
		got, ok := solve.Least(l, c)
		if !ok || !slices.Equal(got, want) || !solve.Known(l, c) || !solve.Solves(l, c, s) || solve.Value(l, s, 4) != 3 {
			t.Error(got, ok)
		}
		clear(got)
		_ = append(got, solve.Sol{V: 55, P: 56})
	}
	if !slices.Equal(all, wasAll) || !slices.Equal(sol, wasSol) || !slices.Equal(l.Names, four.Names) || !slices.Equal(l.Up, four.Up) || l.Names[:5][4] != "spare" || l.Up[:5][4] != 99 {
		t.Error(told(all), sol, l)
	}
}
