package atom_test

import (
	"math"
	"math/rand"
	"slices"
	"testing"

	"chancel/atom"
)

var names = []string{"Lo", "Hi", "Top"}

// holds holds what is told of l against the model.
func holds(t *testing.T, l []atom.Pair) {
	t.Helper()
	norm := atom.Norm(l)
	if !slices.Equal(norm, modelNorm(l)) {
		t.Fatal(told(l), "Norm", told(norm))
	}
	if again := atom.Norm(norm); !slices.Equal(again, norm) {
		t.Fatal(told(l), "Norm of Norm", told(again))
	}
	if vars := atom.Vars(l); !slices.Equal(ints(vars), modelVars(l)) {
		t.Fatal(told(l), "Vars", vars)
	}
	if points := atom.Points(l); !slices.Equal(points, modelPoints(l)) {
		t.Fatal(told(l), "Points", points)
	}
	if text := atom.Texts(names, l); text != modelTexts(names, l) {
		t.Fatal(told(l), "Texts", text)
	}
	for _, p := range l {
		if text := atom.Text(names, p.A); text != modelText(names, p.A) {
			t.Fatal(p.A, "Text", text)
		}
	}
}

// shifts holds what is told of l moved by that against the model, and asks whether it is as it was, if it is moved up, and renamed back.
func shifts(t *testing.T, l []atom.Pair, by int) {
	t.Helper()
	up := atom.Shift(l, by)
	if !slices.Equal(up, modelShift(l, by)) {
		t.Fatal(told(l), by, "Shift", told(up))
	}
	vars := atom.Vars(l)
	if by < 0 || len(vars) > 0 && int(vars[len(vars)-1]) > math.MaxInt-by {
		return
	}
	if back := atom.Rename(up, atom.Vars(up), vars); !slices.Equal(back, l) {
		t.Fatal(told(l), by, "renamed back", told(back))
	}
}

func renames(t *testing.T, l []atom.Pair, from, to []atom.Atom) {
	t.Helper()
	if got := atom.Rename(l, from, to); !slices.Equal(got, modelRename(l, from, to)) {
		t.Fatal(told(l), from, to, "Rename", told(got))
	}
}

// P10.2 to P10.5: all rows of up to 3 pairs of small atoms, and of up to 4 of fewer, against the model.
func TestAll(t *testing.T) {
	seen := 0
	see := func(l []atom.Pair) {
		seen++
		holds(t, l)
		shifts(t, l, seen%7-3)
	}
	for n := range 4 {
		rows(n, pairs([]atom.Atom{-4, -2, -1, 0, 1, 2}), see)
	}
	rows(4, pairs([]atom.Atom{-1, 0, 11}), see)
	if seen != 1+36+36*36+36*36*36+9*9*9*9 {
		t.Error(seen)
	}
}

// P10.3: all small ways to rename, against the model.
func TestAllRenames(t *testing.T) {
	atoms := []atom.Atom{-2, -1, 0, 1}
	seen := 0
	for n := range 4 {
		rows(n, atoms, func(from []atom.Atom) {
			for m := range 4 {
				rows(m, atoms, func(to []atom.Atom) {
					renames(t, pairs(atoms), from, to)
					seen++
				})
			}
		})
	}
	if seen != 85*85 {
		t.Error(seen)
	}
}

// P10.3, P6: all pairs of the atoms at the edges, by all numbers at the edges.
func TestEdges(t *testing.T) {
	edges := []int{math.MinInt, math.MinInt + 1, -1 << 32, -65, -64, -2, -1, 0, 1, 2, 63, 64, 1 << 32, math.MaxInt - 1, math.MaxInt}
	var atoms []atom.Atom
	for _, n := range edges {
		atoms = append(atoms, atom.Atom(n))
	}
	all := pairs(atoms)
	holds(t, all)
	for _, by := range edges {
		for _, p := range all {
			shifts(t, []atom.Pair{p}, by)
		}
		if got := atom.Shift(all, by); !slices.Equal(got, modelShift(all, by)) {
			t.Error(by, told(got))
		}
	}
	turned := slices.Clone(atoms)
	slices.Reverse(turned)
	renames(t, all, atoms, turned)
	renames(t, all, atoms, turned[:9])
	renames(t, all, atoms[3:], turned)
}

// P10.2 to P10.5: longer lists by chance, the same ones each time, against the model.
func TestChance(t *testing.T) {
	c := rand.New(rand.NewSource(10))
	row := func(n, wide int) []atom.Atom {
		var l []atom.Atom
		for range n {
			l = append(l, atom.Atom(c.Intn(wide)-wide/3))
		}
		return l
	}
	for range 3000 {
		wide := 3 + c.Intn(40)
		a := row(c.Intn(60), wide)
		var l []atom.Pair
		for i, b := range row(len(a), wide) {
			l = append(l, pair(a[i], b))
		}
		holds(t, l)
		shifts(t, l, c.Intn(2*wide)-wide)
		renames(t, l, row(c.Intn(20), wide), row(c.Intn(20), wide))
	}
}

// P3: what is handed in stays as it is, and so does what stands behind it; what is told is new memory.
func TestMemory(t *testing.T) {
	all := []atom.Pair{pair(3, -1), pair(3, 3), pair(0, -2), pair(3, -1), pair(9, 9)}
	from, to := []atom.Atom{3, 0, -1, 77}, []atom.Atom{0, 4, 78}
	l := all[:4]
	want := slices.Clone(all)
	for i, call := range []func() []atom.Pair{
		func() []atom.Pair { return atom.Norm(l) },
		func() []atom.Pair { return atom.Norm(l[:1]) },
		func() []atom.Pair { return atom.Shift(l, 0) },
		func() []atom.Pair { return atom.Shift(l, 2) },
		func() []atom.Pair { return atom.Rename(l, nil, nil) },
		func() []atom.Pair { return atom.Rename(l, from[:3], to[:2]) },
	} {
		got := call()
		was := slices.Clone(got)
		again := call()
		for j := range got {
			got[j] = pair(55, 56)
		}
		_ = append(got, pair(57, 58))
		if !slices.Equal(again, was) || !slices.Equal(call(), was) || !slices.Equal(all, want) {
			t.Error(i, told(was), told(again), told(all))
		}
	}
	vars, points := atom.Vars(l), atom.Points(l)
	clear(vars)
	clear(points)
	atom.Texts(names, l)
	if !slices.Equal(all, want) || !slices.Equal(from, []atom.Atom{3, 0, -1, 77}) || !slices.Equal(to, []atom.Atom{0, 4, 78}) || !slices.Equal(names, []string{"Lo", "Hi", "Top"}) {
		t.Error(told(all), from, to, names)
	}
	if !slices.Equal(atom.Vars(l), []atom.Atom{0, 3}) || !slices.Equal(atom.Points(l), []int{0, 1}) {
		t.Error(atom.Vars(l), atom.Points(l))
	}
}

// P1: lists as long as programs come to, in a time that rises no faster than they do, but for their order.
func TestMany(t *testing.T) {
	const many = 1 << 20
	l := make([]atom.Pair, many)
	from, to := make([]atom.Atom, many), make([]atom.Atom, many)
	for i := range many {
		from[i], to[i] = atom.Atom(i), atom.Atom(many-1-i)
		l[many-1-i] = pair(from[i], atom.Point(i))
	}
	vars, points := atom.Vars(l), atom.Points(l)
	for i := range many {
		if int(vars[i]) != i || points[i] != i {
			t.Fatal(i, vars[i], points[i])
		}
	}
	turned := atom.Rename(l, from, to)
	norm := atom.Norm(append(turned, turned...))
	if len(vars) != many || len(points) != many || len(norm) != many {
		t.Fatal(len(vars), len(points), len(norm))
	}
	for i := range many {
		if turned[i] != pair(atom.Atom(i), atom.Point(many-1-i)) || norm[i] != turned[i] {
			t.Fatal(i, turned[i], norm[i])
		}
	}
	if text := atom.Texts(names, l[many-3:]); text != "'2 <= Top, '1 <= Hi, '0 <= Lo" {
		t.Error(text)
	}
	if len(atom.Texts(nil, l)) != many*len("' <= ?, ")+len("0")*10+2*90+3*900+4*9000+5*90000+6*900000+7*(many-1000000)-2 {
		t.Error(len(atom.Texts(nil, l)))
	}
}
