package ltype_test

import (
	"math/rand"
	"slices"
	"sync"
	"testing"

	"chancel/atom"
	"chancel/closed"
	"chancel/lat"
	"chancel/ltype"
	"chancel/shape"
	"chancel/solve"
)

// holds holds what is told of x alone against the model.
func holds(t *testing.T, x ltype.Type) {
	t.Helper()
	if got, want := ltype.Right(x), modelRight(x); got != want {
		t.Fatal(x, "Right", got)
	}
	if got, want := ltype.Shape(x), modelShape(x); !shape.Same(got, want) {
		t.Fatal(x, "Shape", got, want)
	}
	if got, want := ltype.Places(x), modelPlaces(x); !slices.Equal(got, want) {
		t.Fatal(x, "Places", got, want)
	}
	if got, want := ltype.Text(names, x), modelText(names, x); got != want {
		t.Fatal(x, "Text", got, want)
	}
	want := x
	want.L = 77
	if got := ltype.Outer(x, 77); !modelSame(got, want) {
		t.Fatal(x, "Outer", got)
	}
}

func renames(t *testing.T, x ltype.Type, from, to []atom.Atom) {
	t.Helper()
	if got, want := ltype.Rename(x, from, to), modelRename(x, from, to); !modelSame(got, want) {
		t.Fatal(x, from, to, "Rename", got, want)
	}
}

func subs(t *testing.T, a, b ltype.Type) {
	t.Helper()
	got, ok := ltype.Sub(a, b)
	want, also := modelSub(a, b)
	if ok != also || !slices.Equal(got, want) {
		t.Fatal(a, b, "Sub", got, ok, want)
	}
}

// P13.1 to P13.4: all small types, most of them not right, against the model.
func TestAllTypes(t *testing.T) {
	right := 0
	for _, x := range someTypes() {
		holds(t, x)
		renames(t, x, []atom.Atom{1, 4, -1, 0, 1}, []atom.Atom{-1, 0, 1, 9, 8})
		renames(t, x, []atom.Atom{3, 1, 0}, []atom.Atom{1, 3})
		if ltype.Right(x) {
			right++
		}
	}
	if right < 40 {
		t.Error(right)
	}
}

// P13.1, P13.3: all small types with each other, against the model.
func TestAllTwos(t *testing.T) {
	small := append(allOf(1, anyHeads()), allOf(2, anyHeads())...)
	few := []ltype.Type{{Kind: 1, L: 1}, {Kind: 3, L: 2, PC: 1, X: 3}, {Kind: 2, L: 1, C: 4}, {Kind: 3, L: 2, PC: 1, X: 4}, {Kind: 2, L: 1, C: 5}}
	small = append(small, allOf(3, few)...)
	seen := 0
	for i, a := range small {
		for j, b := range small {
			if got, want := ltype.Same(a, b), modelSame(a, b); got != want {
				t.Fatal(i, j, a, b, "Same", got)
			}
			subs(t, a, b)
			if _, ok := ltype.Sub(a, b); ok {
				seen++
			}
		}
	}
	if seen < 50 {
		t.Error(seen)
	}
}

// P13.2, P13.3, P13.5: all right shapes of up to 9 Kids and Kids of these: what is fresh, and what is asked of two of them.
func TestAllShapes(t *testing.T) {
	for _, s := range shapesTo(9, in, ref, hole(0)) {
		for _, next := range []int{0, 1, 1000} {
			x, after := ltype.Fresh(s, next)
			want, behind := modelFresh(s, next)
			if !modelSame(x, want) || after != behind {
				t.Fatal(s, next, x, after)
			}
			holds(t, x)
			places := ltype.Places(x)
			for i, l := range places {
				if int(l) != next+i {
					t.Fatal(s, next, places)
				}
			}
			if after != next+len(places) || !shape.Same(ltype.Shape(x), shape.Ground(s)) {
				t.Fatal(s, next, after)
			}
			subs(t, x, fresh(s, 500))
			self, ok := ltype.Sub(x, x)
			if !ok || len(atom.Norm(self)) != 0 {
				t.Fatal(s, "is not a subtype of itself", self)
			}
		}
	}
}

// P13.3: types of two shapes, none of which is the other's.
func TestAllUnlike(t *testing.T) {
	all := shapesTo(7, in, ref)
	for i, s := range all {
		for j, r := range all {
			got, ok := ltype.Sub(fresh(s, 0), fresh(r, 50))
			if ok != (i == j) || !ok && got != nil {
				t.Fatal(s, r, got, ok)
			}
		}
	}
}

// P13.5: subtypes go on: of three types of one shape, what is asked of the outer two follows from what is asked of those that are next to each other.
func TestGoOn(t *testing.T) {
	for _, s := range shapesTo(7, in, ref) {
		a, b, c := fresh(s, 0), fresh(s, 100), fresh(s, 200)
		ab, _ := ltype.Sub(a, b)
		bc, _ := ltype.Sub(b, c)
		ac, _ := ltype.Sub(a, c)
		both := slices.Concat(ab, bc)
		for _, p := range ac {
			if !closed.Reach(both, p.A, p.B) {
				t.Fatal(s, p)
			}
		}
		for _, p := range atom.Norm(append(ab, bc...)) { // but none of them follows from that
			if closed.Reach(ac, p.A, p.B) {
				t.Fatal(s, p, "is asked of the outer ones")
			}
		}
	}
}

// P13.5: the same of labels that come more than once, points among them.
func TestGoOnOverPoints(t *testing.T) {
	l, e := lat.Parse("Lo A B Hi\n1111\n0101\n0011\n0001\n")
	if e != 0 {
		t.Fatal(e)
	}
	c := rand.New(rand.NewSource(13))
	shapes := shapesTo(5, in, ref)
	seen := 0
	for range 30000 {
		s := shapes[c.Intn(len(shapes))]
		var x [3]ltype.Type
		for i := range x {
			x[i] = chanceLabels(c, fresh(s, 0), 4, 6)
		}
		ab, _ := ltype.Sub(x[0], x[1])
		bc, _ := ltype.Sub(x[1], x[2])
		ac, _ := ltype.Sub(x[0], x[2])
		if _, ok := solve.Least(l, append(ab, bc...)); !ok {
			continue
		}
		seen++
		for _, p := range ac {
			if !closed.Entails(l, append(ab, bc...), p.A, p.B) {
				t.Fatal(ltype.Text(l.Names, x[0]), ltype.Text(l.Names, x[1]), ltype.Text(l.Names, x[2]), p)
			}
		}
	}
	if seen < 1000 {
		t.Error(seen)
	}
}

// chanceLabels tells x with labels by chance, of so many points and so many variables.
func chanceLabels(c *rand.Rand, x ltype.Type, points, vars int) ltype.Type {
	places := ltype.Places(x)
	labels := make([]atom.Atom, len(places))
	for i := range labels {
		labels[i] = atom.Atom(c.Intn(points+vars) - points)
	}
	return ltype.Rename(x, places, labels)
}

// chanceShape tells a right shape by chance, of a size of about that.
func chanceShape(c *rand.Rand, size int) shape.Shape {
	if size < 3 {
		return []shape.Shape{in, ref, hole(c.Intn(9))}[c.Intn(3)]
	}
	first := 1 + c.Intn(size-2)
	return fun(chanceShape(c, first), chanceShape(c, size-1-first))
}

// P13.1 to P13.4: greater types by chance, the same ones each time, some of them with one thing that is not right, against the model.
func TestChance(t *testing.T) {
	c := rand.New(rand.NewSource(1313))
	row := func(wide int) []atom.Atom {
		l := make([]atom.Atom, c.Intn(9))
		for i := range l {
			l[i] = atom.Atom(c.Intn(wide) - wide/3)
		}
		return l
	}
	for range 4000 {
		s := chanceShape(c, 1+c.Intn(60))
		wide := 3 + c.Intn(40)
		a, b := chanceLabels(c, fresh(s, 3), 4, wide), chanceLabels(c, fresh(s, 0), 2, wide)
		if c.Intn(3) == 0 {
			b = spoilt(c, b)
		}
		for _, x := range []ltype.Type{a, b} {
			holds(t, x)
			renames(t, x, row(wide), row(wide))
		}
		subs(t, a, b)
		subs(t, b, a)
		if ltype.Same(a, b) != modelSame(a, b) {
			t.Fatal(a, b, "Same")
		}
	}
}

// spoilt tells x with one thing of one of its Kids turned.
func spoilt(c *rand.Rand, x ltype.Type) ltype.Type {
	told := modelRename(x, nil, nil) // a copy
	at := &told
	for len(at.Kids) > 0 && c.Intn(5) > 0 {
		at = &at.Kids[c.Intn(len(at.Kids))]
	}
	switch c.Intn(6) {
	case 0:
		at.Kind = c.Intn(6) - 1
	case 1:
		at.C++
	case 2:
		at.PC--
	case 3:
		at.X++
	case 4:
		at.Kids = append(at.Kids, number(1))
	case 5:
		at.Kids = at.Kids[:len(at.Kids)/2]
	}
	return told
}

// P3: what is handed in stays as it is, and so does what stands behind it; what is told can be written into.
func TestMemory(t *testing.T) {
	kids := []ltype.Type{cell(4, 5), arrow(6, 7, 8, number(9), cell(1, 1)), number(12)}
	x := arrow(1, 2, 3, kids[:2]...)
	from, to := []atom.Atom{1, 9, 4, 55}, []atom.Atom{21, 22, 23, 56}
	s := fun(ref, fun(hole(3), in))
	wasX, wasS := ltype.Text(names, x), shape.Text(s)
	for i, call := range []func() ltype.Type{
		func() ltype.Type { return ltype.Outer(x, 40) },
		func() ltype.Type { return ltype.Outer(x, x.L) },
		func() ltype.Type { return ltype.Rename(x, from[:3], to[:3]) },
		func() ltype.Type { return ltype.Rename(x, nil, nil) },
		func() ltype.Type { return fresh(s, 0) },
	} {
		got := call()
		was := ltype.Text(names, got)
		again := call()
		spoil(&got)
		if ltype.Text(names, again) != was || ltype.Text(names, call()) != was || ltype.Text(names, x) != wasX || shape.Text(s) != wasS || !ltype.Same(kids[2], number(12)) {
			t.Error(i, ltype.Text(names, x), ltype.Text(names, again))
		}
	}
	shaped := ltype.Shape(x)
	shaped.Kids[1].Kids[0].Kind = 9
	clear(shaped.Kids)
	places := ltype.Places(x)
	clear(places)
	subs, _ := ltype.Sub(x, x)
	clear(subs)
	if ltype.Text(names, x) != wasX || len(ltype.Places(x)) != len(places) || ltype.Places(x)[0] != 1 || shape.Text(ltype.Shape(x)) != "(ref -> (int -> ref))" {
		t.Error(ltype.Text(names, x))
	}
	if !slices.Equal(from, []atom.Atom{1, 9, 4, 55}) || !slices.Equal(to, []atom.Atom{21, 22, 23, 56}) || !slices.Equal(names, []string{"Lo", "Hi"}) {
		t.Error(from, to, names)
	}
}

// spoil writes into all of x.
func spoil(x *ltype.Type) {
	x.Kind, x.L, x.C, x.PC, x.X = 8, 88, 88, 88, 88
	for i := range x.Kids {
		spoil(&x.Kids[i])
	}
	x.Kids = append(x.Kids, number(88))
}

// P4: many at once, of one type, tell what one does.
func TestAtOnce(t *testing.T) {
	x, y := fresh(fun(fun(ref, in), fun(in, ref)), 0), fresh(fun(fun(ref, in), fun(in, ref)), 30)
	text := ltype.Text(names, x)
	want, _ := ltype.Sub(x, y)
	var all sync.WaitGroup
	for range 8 {
		all.Go(func() {
			for i := range 200 {
				got, ok := ltype.Sub(x, y)
				z := ltype.Rename(ltype.Outer(x, atom.Atom(i)), ltype.Places(x), ltype.Places(y))
				if !ok || !slices.Equal(got, want) || ltype.Text(names, x) != text || ltype.Same(x, z) || !shape.Same(ltype.Shape(z), ltype.Shape(y)) {
					t.Error(i, got)
				}
			}
		})
	}
	all.Wait()
}
