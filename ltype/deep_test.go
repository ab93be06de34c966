package ltype_test

import (
	"runtime/debug"
	"slices"
	"testing"

	"chancel/atom"
	"chancel/ltype"
	"chancel/shape"
)

// narrow lets a test have so little stack that calls that go down a type of depth far, one a level, end it.
func narrow(t *testing.T) {
	was := debug.SetMaxStack(2 << 20)
	t.Cleanup(func() { debug.SetMaxStack(was) })
}

const far = 100_000

// P1: a type may be as deep as memory goes, in whichever Kid.
func TestFar(t *testing.T) {
	narrow(t)
	for i := range 2 {
		x := spine(far, i, cell(4, 5), number(6))
		if !ltype.Right(x) || !ltype.Same(x, x) || !shape.Same(ltype.Shape(x), shapeSpine(far, i, ref, in)) {
			t.Error(i, "Right, Same, Shape")
		}
		if wrong := spine(far, i, cell(4, 5), ltype.Type{Kind: 1, X: 1}); ltype.Right(wrong) || ltype.Same(x, wrong) || ltype.Text(names, wrong) != "?" || ltype.Places(wrong) != nil {
			t.Error(i, "what is lowest counts")
		}
		other := spine(far, i, cell(4, 5), number(7))
		if ltype.Same(x, other) || !ltype.Same(ltype.Rename(x, []atom.Atom{6}, []atom.Atom{7}), other) {
			t.Error(i, "Rename")
		}
		if y := ltype.Outer(x, 9); y.L != 9 || !ltype.Same(ltype.Outer(y, 1), x) {
			t.Error(i, "Outer")
		}
		if text := ltype.Text(names, x); len(text) != far*len("(ref@'4['5] -'2,'3-> )@'1")+len("int@'6") {
			t.Error(i, len(text))
		}
		if l := ltype.Places(x); len(l) != 5*far+1 || l[0] != 1 || l[3] != []atom.Atom{1, 4}[i] || slices.Index(l, 6) != []int{3 * far, 5 * far}[i] {
			t.Error(i, len(l))
		}
	}
}

// P1, P13.2, P13.3: what is fresh may be as deep, and what is asked of it.
func TestFreshFar(t *testing.T) {
	narrow(t)
	for i := range 2 {
		s := shapeSpine(far, i, ref, hole(3))
		x, after := ltype.Fresh(s, 7)
		y, _ := ltype.Fresh(s, after)
		if after != 7+5*far+1 || !shape.Same(ltype.Shape(x), shape.Ground(s)) {
			t.Error(i, after)
		}
		for j, l := range ltype.Places(x) {
			if int(l) != 7+j {
				t.Fatal(i, j, l)
			}
		}
		l, ok := ltype.Sub(x, y)
		if !ok || len(l) != 6*far+1 {
			t.Fatal(i, len(l), ok)
		}
		places, others := ltype.Places(x), ltype.Places(y)
		at := slices.Index(l, atom.Pair{A: places[[]int{3 * far, 5 * far}[i]], B: others[[]int{3 * far, 5 * far}[i]]})
		if at != []int{3 * far, 6 * far}[i] { // far is even, so that the lowest one comes the way that the whole does
			t.Error(i, at)
		}
		if l, ok := ltype.Sub(x, fresh(shapeSpine(far, i, ref, ref), 0)); ok || l != nil {
			t.Error(i, len(l))
		}
		if z := ltype.Rename(x, places, others); !ltype.Same(z, y) {
			t.Error(i, "not renamed")
		}
	}
}

// P1: a type may have as many Kids as memory has, none of which is right.
func TestWide(t *testing.T) {
	const many = 1 << 20
	kids := make([]ltype.Type, many)
	for i := range kids {
		kids[i] = []ltype.Type{number(1), cell(2, 3), {Kind: 9, L: 4, C: 5}}[i%3]
	}
	for kind := range 5 {
		x := ltype.Type{Kind: kind, Kids: kids}
		if ltype.Right(x) || ltype.Places(x) != nil || ltype.Text(names, x) != "?" || ltype.Shape(x).Kind != 0 || !ltype.Same(x, ltype.Type{Kind: kind, Kids: slices.Clone(kids)}) {
			t.Error(kind)
		}
		if l, ok := ltype.Sub(x, x); ok || l != nil {
			t.Error(kind)
		}
		y := ltype.Rename(x, []atom.Atom{3, 4, 5}, []atom.Atom{33, 44, 55})
		for i, k := range y.Kids {
			if want := []ltype.Type{number(1), cell(2, 33), {Kind: 9, L: 44, C: 5}}[i%3]; !ltype.Same(k, want) {
				t.Fatal(kind, i, k)
			}
		}
		if z := ltype.Outer(x, 3); z.L != 3 || len(z.Kids) != many || !ltype.Same(z.Kids[many-1], kids[many-1]) {
			t.Error(kind, "Outer")
		}
	}
}

// P1: types that share their Kids count as often as they stand there, and are renamed in each place.
func TestShared(t *testing.T) {
	x := arrow(0, 1, 2, number(3), cell(4, 5))
	for range 14 {
		x = arrow(0, 1, 2, x, x)
	}
	const places = 6<<14 + 3*(1<<14-1)
	if !ltype.Right(x) || len(ltype.Places(x)) != places || len(ltype.Text(names, x)) != len(modelText(names, x)) {
		t.Error(len(ltype.Places(x)))
	}
	y := ltype.Rename(x, []atom.Atom{5, 0}, []atom.Atom{50, 51})
	if !modelSame(y, modelRename(x, []atom.Atom{5, 0}, []atom.Atom{50, 51})) {
		t.Error("Rename")
	}
	l, ok := ltype.Sub(x, y)
	want, _ := modelSub(x, y)
	if !ok || !slices.Equal(l, want) {
		t.Error(len(l), ok)
	}
}

// P1: lists of names of labels as long as programs come to, in a time that rises no faster than they do.
func TestMany(t *testing.T) {
	const many = 1 << 20
	from, to := make([]atom.Atom, many), make([]atom.Atom, many)
	for i := range many {
		from[i], to[i] = atom.Atom(i), atom.Atom(many-1-i)
	}
	s := in
	for range 1 << 17 {
		s = fun(in, s)
	}
	x, after := ltype.Fresh(s, 0)
	places := ltype.Places(ltype.Rename(x, from, to))
	if after != 4<<17+1 || len(places) != after {
		t.Fatal(after, len(places))
	}
	for i, l := range places {
		if int(l) != many-1-i {
			t.Fatal(i, l)
		}
	}
}
