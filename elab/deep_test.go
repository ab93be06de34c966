package elab_test

import (
	"runtime/debug"
	"testing"

	"chancel/elab"
	"chancel/shape"
	"chancel/term"
)

// narrow lets a test have so little stack that calls that go down a tree of depth far, one a level, end it.
func narrow(t *testing.T) {
	was := debug.SetMaxStack(2 << 20)
	t.Cleanup(func() { debug.SetMaxStack(was) })
}

const far = 100_000

// spine is a tree of that depth, each level of which has n Kids, Kid i the next level, and low the lowest.
func spine(depth, n, i int, low elab.Tree) elab.Tree {
	x := low
	for d := depth - 1; d > 0; d-- {
		kids := make([]elab.Tree, n)
		for j := range kids {
			kids[j] = elab.Tree{Kind: term.Num, N: int64(d), S: in}
		}
		kids[i] = x
		x = elab.Tree{Kind: d%13 + 1, Name: "x", N: int64(d), S: ref, B: in, Kids: kids}
	}
	return x
}

// deepShape is a shape in which so many Funs stand one in another, and low the lowest.
func deepShape(depth int, low shape.Shape) shape.Shape {
	for range depth {
		low = to(low, in)
	}
	return low
}

// P1, P9.1: a tree may be as deep as memory goes, be the way down in whichever Kid, and so may its shapes.
func TestFar(t *testing.T) {
	narrow(t)
	low, other := elab.Tree{Kind: term.Var, Name: "low"}, elab.Tree{Kind: term.Var, Name: "other"}
	for n := 1; n <= 3; n++ {
		for i := range n {
			x := spine(far, n, i, low)
			if !elab.Same(x, spine(far, n, i, low)) || elab.Same(x, spine(far, n, i, other)) || elab.Same(x, spine(far+1, n, i, low)) || elab.Same(spine(far+1, n, i, low), x) {
				t.Error(n, i, "Same")
			}
			y := elab.Bare(x)
			for d := 1; d < far; d++ {
				if y.Kind != d%13+1 || y.Name != "x" || y.N != int64(d) || len(y.Kids) != n {
					t.Fatal(n, i, d, y.Kind)
				}
				for j, k := range y.Kids {
					if j != i && !term.Same(k, num(int64(d))) {
						t.Fatal(n, i, d, j, k)
					}
				}
				y = y.Kids[i]
			}
			if !term.Same(y, v("low")) {
				t.Error(n, i, y)
			}
		}
	}
	a, b := deepShape(far, in), deepShape(far, ref)
	for i, c := range []struct {
		x, y elab.Tree
		want bool
	}{
		{elab.Tree{S: a}, elab.Tree{S: deepShape(far, in)}, true},
		{elab.Tree{S: a}, elab.Tree{S: b}, false},
		{elab.Tree{B: a}, elab.Tree{B: b}, false},
		{elab.Tree{B: b}, elab.Tree{B: deepShape(far, ref)}, true},
	} {
		if elab.Same(c.x, c.y) != c.want || elab.Same(spine(9, 2, 1, c.x), spine(9, 2, 1, c.y)) != c.want {
			t.Error(i)
		}
	}
}

// P1, P9.1: a tree may have as many Kids as memory has, and share them; they count as often as they stand there.
func TestWide(t *testing.T) {
	const many = 1 << 18
	wide := func(last elab.Tree) elab.Tree {
		kids := make([]elab.Tree, many)
		for i := range kids {
			kids[i] = elab.Tree{Kind: i % 15, N: int64(i), Kids: []elab.Tree{{Name: "x"}}}
		}
		kids[many-1] = last
		return elab.Tree{Kind: 5, Kids: kids}
	}
	x := wide(elab.Tree{Kind: 1})
	if !elab.Same(x, wide(elab.Tree{Kind: 1})) || elab.Same(x, wide(elab.Tree{Kind: 1, B: in})) {
		t.Error("Same")
	}
	y := elab.Bare(x)
	for i, k := range y.Kids[:many-1] {
		if !term.Same(k, term.Term{Kind: i % 15, N: int64(i), Kids: []term.Term{{Name: "x"}}}) {
			t.Fatal(i, k)
		}
	}
	z := elab.Tree{Kind: term.Num, S: in}
	for range 16 {
		z = elab.Tree{Kind: term.Seq, S: in, Kids: []elab.Tree{z, z}}
	}
	if term.Size(elab.Bare(z)) != 1<<17-1 || !elab.Same(z, z) {
		t.Error(term.Size(elab.Bare(z)))
	}
}

// P9.1: all small trees, whatever they are, against each other.
func TestAllTrees(t *testing.T) {
	heads := []elab.Tree{{}, {Kind: 1}, {Kind: 3, Name: "x", B: in}, {Kind: 3, Name: "x", B: ref}, {N: 1, S: in}}
	var all []elab.Tree
	for _, x := range heads {
		all = append(all, x)
		for _, y := range heads {
			x.Kids = []elab.Tree{y}
			all = append(all, x)
			for _, z := range heads {
				x.Kids = []elab.Tree{y, z}
				all = append(all, x)
			}
		}
	}
	for i, x := range all {
		if !sameTerm(x, elab.Bare(x)) {
			t.Error(i, elab.Bare(x))
		}
		for j, y := range all {
			if got := elab.Same(x, y); got != (i == j) {
				t.Error(i, j, got)
			}
		}
	}
}
