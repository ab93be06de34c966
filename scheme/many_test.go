package scheme_test

import (
	"runtime/debug"
	"slices"
	"strings"
	"testing"

	"chancel/atom"
	"chancel/lat"
	"chancel/ltype"
	"chancel/scheme"
	"chancel/shape"
)

// narrow lets a test have so little stack that calls that go down a type of depth far, one a level, end it.
func narrow(t *testing.T) {
	was := debug.SetMaxStack(2 << 20)
	t.Cleanup(func() { debug.SetMaxStack(was) })
}

const far = 100_000

// spine is a shape in which so many Funs stand one in another, each as Kid i of the one above it, the other Kid being side, and low the lowest. It stands in one piece of memory.
func spine(depth, i int, side, low shape.Shape) shape.Shape {
	all := make([]shape.Shape, 2*depth+1)
	at := 0
	for d := range depth {
		kids := all[2*d+1 : 2*d+3 : 2*d+3]
		kids[0], kids[1] = side, side
		all[at] = shape.Shape{Kind: shape.Fun, Kids: kids}
		at = 2*d + 1 + i
	}
	all[at] = low
	return all[0]
}

// P1: types and schemes may be as deep as memory goes, in whichever Kid.
func TestFar(t *testing.T) {
	narrow(t)
	for i := range 2 {
		s := spine(far, i, ref, in)
		x, next := ltype.Fresh(s, 9)
		places := ltype.Places(x)
		lowest := 5 * far // the place of what is lowest
		if i == 0 {
			lowest = 3 * far
		}
		got := scheme.Make(two, x, []atom.Pair{pair(hi, places[lowest]), pair(places[1], atom.Atom(next)), pair(atom.Atom(next), places[lowest])})
		if !shape.Same(got.S, s) || !slices.Equal(got.Con, []atom.Pair{pair(hi, atom.Atom(lowest))}) {
			t.Fatal(i, len(got.Con))
		}
		got = scheme.Make(two, x, []atom.Pair{pair(places[1], atom.Atom(next)), pair(atom.Atom(next), places[lowest])})
		if !slices.Equal(got.Con, []atom.Pair{pair(1, atom.Atom(lowest))}) { // far is even, so that what is lowest is above what it is asked for
			t.Fatal(i, len(got.Con))
		}
		y, c, after := scheme.Inst(got, 7)
		if !ltype.Right(y) || after != 7+5*far+1 || !slices.Equal(c, []atom.Pair{pair(8, atom.Atom(7+lowest))}) || !scheme.Same(scheme.Make(two, y, c), got) {
			t.Error(i, after, c)
		}
		if !scheme.Order(two, got, got) || !scheme.Order(two, scheme.Scheme{S: s}, got) || scheme.Order(two, got, scheme.Scheme{S: s}) || scheme.Order(two, got, scheme.Scheme{S: spine(far, i, ref, ref), Con: got.Con}) {
			t.Error(i, "Order")
		}
		if scheme.Same(got, scheme.Scheme{S: spine(far, i, ref, ref), Con: got.Con}) || scheme.Same(got, scheme.Scheme{S: s}) {
			t.Error(i, "Same")
		}
		if text := scheme.Text(two.Names, got); !strings.HasSuffix(text, " | '1 <= '"+digits(lowest)) || !strings.HasPrefix(text, "(") {
			t.Error(i, text[max(0, len(text)-50):])
		}
		if z := scheme.Make(two, ltype.Rename(x, []atom.Atom{places[lowest]}, []atom.Atom{-3}), nil); z.S.Kind != 0 || len(z.Con) != 0 {
			t.Error(i, "what is lowest counts")
		}
	}
}

func digits(n int) string {
	return strings.TrimPrefix(atom.Text(nil, atom.Atom(n)), "'")
}

// P1, P14.1, P14.2: as many labels, and Pairs, as programs come to, in a time that rises no faster than they do.
func TestMany(t *testing.T) {
	const many = 1 << 17
	l := lat.Lat{Names: chain(64).Names, Up: chain(64).Up}
	s := spine(many, 1, in, in)
	x, next := ltype.Fresh(s, 0)
	var c, want []atom.Pair
	for k := range many { // from what is given to what it may raise, by a way of two
		given, raised := atom.Atom(4*k+3), atom.Atom(4*k+2)
		c = append(c, pair(given, atom.Atom(next+k)), pair(atom.Atom(next+k), raised))
		want = append(want, pair(given, raised))
	}
	a := scheme.Make(l, x, c)
	if !shape.Same(a.S, s) || !slices.Equal(a.Con, want) {
		t.Fatal(len(a.Con))
	}
	more := slices.Clone(c)
	for k := 0; k < many; k += 2 { // by points alone
		more = append(more, pair(pt(1+k%63), atom.Atom(next+k)))
		more = append(more, pair(atom.Atom(4*k+3), pt(k%63)))
	}
	b := scheme.Make(l, x, more)
	if len(b.Con) != 3*many/2 || !scheme.Order(l, a, b) || scheme.Order(l, b, a) || !scheme.Order(l, b, b) {
		t.Error(len(b.Con))
	}
	y, d, after := scheme.Inst(b, 5)
	if after != next+5 || !scheme.Same(scheme.Make(l, y, d), b) || !scheme.Same(scheme.Make(l, x, append(more, c...)), b) {
		t.Error(after)
	}
}

// P1, P14.2: as many Pairs as the greatest shape of a program lets a scheme have, each of which follows, but does not stand there.
func TestGreatest(t *testing.T) {
	s := in
	for range (shape.Most - 1) / 2 {
		s = fun(ref, s)
	}
	x, next := ltype.Fresh(s, 0)
	var all []atom.Pair
	for k := range next {
		for j := range next {
			all = append(all, pair(atom.Atom(k), atom.Atom(j)))
		}
	}
	a := scheme.Make(four, x, all)
	if len(a.Con) < 20000 {
		t.Fatal(len(a.Con))
	}
	b := scheme.Make(four, x, append(all, pair(pt(3), 0)))
	if len(b.Con) >= next || !scheme.Order(four, a, b) || scheme.Order(four, b, a) {
		t.Error(len(b.Con))
	}
}
