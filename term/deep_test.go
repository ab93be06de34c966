package term_test

import (
	"slices"
	"testing"

	"chancel/term"
)

// far is a depth at which calls that go down a term, one a level, need more stack than there is.
const far = 6_000_000

// spine is a term of that depth, each level of which has n Kids, Kid i the next level; at tells what a level has beside its Kids, and low is the lowest. It stands in one piece of memory.
func spine(depth, n, i int, at func(depth int) term.Term, low term.Term) term.Term {
	all := make([]term.Term, (depth-1)*n+1)
	place := 0
	for d := 1; d < depth; d++ {
		first := (d-1)*n + 1
		kids := all[first : first+n]
		for j := range kids {
			kids[j] = v("k")
		}
		all[place] = at(d)
		all[place].Kids = kids
		place = first + i
	}
	all[place] = low
	return all[0]
}

// P1, P3.2, P3.3: a term may be as deep as memory goes, in whichever Kid.
func TestDeep(t *testing.T) {
	names := []string{"x", "y", "z"}
	bind := func(d int) term.Term { return of(term.Let, names[d%3]) }
	get := func(d int) term.Term { return of(term.Get, "x") }
	for _, c := range []struct {
		depth, n, i int
		at          func(d int) term.Term
		low         term.Term
		want        []string
	}{
		{100000, 1, 0, bind, v("x"), nil},
		{100000, 1, 0, get, v("x"), []string{"x"}},
		{100000, 2, 0, bind, v("x"), []string{"k", "x"}},
		{100000, 2, 1, bind, v("x"), []string{"k"}},
		{100000, 3, 1, bind, v("y"), []string{"k", "y"}},
		{far, 1, 0, bind, v("w"), []string{"w"}},
	} {
		x := spine(c.depth, c.n, c.i, c.at, c.low)
		if term.Size(x) != (c.depth-1)*c.n+1 || term.Depth(x) != c.depth || term.Right(x) || !slices.Equal(term.Free(x), c.want) || !term.Same(x, x) {
			t.Error(c.depth, c.n, c.i, term.Size(x), term.Depth(x), term.Free(x))
		}
		if c.depth < far {
			other := spine(c.depth, c.n, c.i, c.at, num(7))
			if term.Same(x, other) || term.Same(other, x) {
				t.Error(c.n, c.i, "Same")
			}
		}
	}
}

// P3.2, P3.3: around the greatest depth that is right, where several Kids go deeper.
func TestAroundMaxDepth(t *testing.T) {
	fork := of(term.If, "", of(term.Let, "x", of(term.Try, "y", v("x"), v("y")), of(term.Seq, "", v("x"), v("z"))), of(term.Fun, "z", v("z"), v("x"), of(term.Var, "z", v("y"))), of(term.Seq, "", of(term.Get, "", v("w")), v("y")))
	for depth := 195; depth <= 205; depth++ {
		for _, name := range []string{"w", "x", "y", "z"} {
			for i := range 2 {
				x := chain(depth, 2, i, func(d int) term.Term {
					if d == depth {
						return fork
					}
					return of(term.Let, []string{name, "q", "r"}[d%3])
				})
				x = of(term.Seq, "", of(term.Get, "", x), of(term.App, "", x, v("q")))
				holds(t, x)
				turnedIsOther(t, x)
			}
		}
	}
}

// turnedIsOther turns one term after the other in a copy of x, some left out, and asks whether it is the same.
func turnedIsOther(t *testing.T, x term.Term) {
	t.Helper()
	c := copied(x)
	at := 0
	each(&c, func(y *term.Term) {
		if at++; at%97 == 0 {
			y.N++
			if term.Same(x, c) || term.Same(c, x) {
				t.Fatal(at)
			}
			y.N--
		}
	})
	if !term.Same(x, c) {
		t.Fatal("a copy")
	}
}

// P1: a term may have as many Kids as memory has.
func TestWide(t *testing.T) {
	const many = 1 << 20
	wide := of(term.Let, "x", slices.Repeat([]term.Term{v("x")}, many)...)
	low := chain(300, 1, 0, func(d int) term.Term {
		if d == 300 {
			return wide
		}
		return of(term.Raise, "")
	})
	for i, x := range []term.Term{wide, low} {
		if term.Size(x) != many+1+299*i || term.Depth(x) != 2+299*i || term.Right(x) || !slices.Equal(term.Free(x), []string{"x"}) || !term.Same(x, x) {
			t.Error(i, term.Size(x), term.Depth(x), term.Free(x))
		}
	}
}

// P1: terms that share their Kids count as often as they stand there; that one is not right is told without going through it all.
func TestShared(t *testing.T) {
	x := v("x")
	for d := range 20 {
		if term.Right(x) != (d <= 12) {
			t.Error(d)
		}
		x = of(term.Seq, "", x, x)
	}
	if term.Size(x) != 1<<21-1 || term.Depth(x) != 21 || !slices.Equal(term.Free(x), []string{"x"}) {
		t.Error(term.Size(x), term.Depth(x))
	}
	for range 8 {
		x = of(term.Seq, "", x, x)
	}
	for range 1000 {
		if term.Right(x) {
			t.Fatal("2^28 terms")
		}
	}
}
