package scope_test

import (
	"runtime/debug"
	"strconv"
	"testing"

	"chancel/api"
	"chancel/prog"
	"chancel/scope"
	"chancel/term"
)

// narrow lets a test have so little stack that calls that go down a term of depth far, one a level, end it.
func narrow(t *testing.T) {
	was := debug.SetMaxStack(2 << 20)
	t.Cleanup(func() { debug.SetMaxStack(was) })
}

const far = 100_000

// spine is a term of that depth, each level of which has n Kids, Kid i the next level, the others Vars x; at tells what a level has beside its Kids. It stands in one piece of memory.
func spine(depth, n, i int, at func(depth int) term.Term, low term.Term) term.Term {
	all := make([]term.Term, (depth-1)*n+1)
	place := 0
	for d := 1; d < depth; d++ {
		first := (d-1)*n + 1
		kids := all[first : first+n : first+n]
		for j := range kids {
			kids[j] = v("x")
		}
		all[place] = at(d)
		all[place].Kids = kids
		place = first + i
	}
	all[place] = low
	return all[0]
}

// down goes along the spine of x, each level of which has the next one as Kid i.
func down(x term.Term, depth, i int, see func(depth int, t term.Term)) {
	for d := 1; d < depth; d++ {
		see(d, x)
		x = x.Kids[i]
	}
	see(depth, x)
}

// P1, P7.1: a term may be as deep as memory goes, be the way down in the first Kid, or in the last, or between; a name stands for the innermost binder in the last Kid of which it is.
func TestFar(t *testing.T) {
	narrow(t)
	bind := func(d int) term.Term {
		switch d % 4 {
		case 0:
			return of(term.Let, "x")
		case 1:
			return of(term.Seq, "")
		case 2:
			return of(term.Try, "y")
		}
		return of(term.Fun, "x")
	}
	for n := 1; n <= 3; n++ {
		for i := range n {
			x := spine(far, n, i, bind, v("x"))
			u, next := scope.Rename(x, -7)
			if many := (far - 1) - far/4; next != many-7 || scope.Count(x) != many {
				t.Error(n, i, next, scope.Count(x))
			}
			holdsFar(t, u, n, i)
		}
	}
}

// holdsFar holds u, what spine makes of the binders of TestFar being renamed from -7 on, against the chapter.
func holdsFar(t *testing.T, u term.Term, n, i int) {
	t.Helper()
	number, around := -7, "x" // what x stands for
	down(u, far, i, func(d int, y term.Term) {
		within := around
		if d < far && modelBinder(y) {
			if y.Name != strconv.Itoa(number) {
				t.Fatal(n, i, d, y.Name)
			}
			if y.Kind != term.Try {
				within = y.Name
			}
			number++
		}
		for j, k := range y.Kids {
			want := around
			if j == n-1 {
				want = within
			}
			if j != i && k.Name != want {
				t.Fatal(n, i, d, j, k.Name, want)
			}
		}
		if d == far && y.Name != around {
			t.Fatal(n, i, y.Name, around)
		}
		if i == n-1 {
			around = within
		}
	})
}

// P7.1: around the greatest depth of a right term, where several Kids go deeper, some binders have no Kid or many, and what is renamed behind them is bound above.
func TestAroundMaxDepth(t *testing.T) {
	fork := of(term.If, "", of(term.Let, "x", of(term.Try, "y", v("x"), v("y")), of(term.Seq, "", v("x"), v("z"))),
		of(term.Fun, "z", v("z"), fun("x", v("y")), of(term.Var, "z", v("y"))), of(term.Fun, "y"), of(term.Op, "x", v("y"), v("x")), of(term.Seq, "w", v("w")),
		of(term.Seq, "", of(term.Get, "", v("w")), of(term.Let, "w", fun("w", v("w")), fun("z", v("w"))), v("y"), v("x")))
	for depth := 195; depth <= 206; depth++ {
		for _, name := range []string{"w", "x", "y", "z"} {
			for i := range 2 {
				x := chain(depth, 2, i, func(d int) term.Term {
					if d == depth {
						return fork
					}
					return of([]int{term.Let, term.Try, term.Seq, term.Fun}[d%4], []string{name, "q", "r"}[d%3])
				})
				holds(t, of(term.Seq, "", of(term.Get, "", x), of(term.App, "", x, v(name))), 95)
				holds(t, of(term.Let, name, of(term.Get, "", x), of(term.App, "", x, v(name))), 995)
			}
		}
	}
}

// P1, P7.1: a term may have as many Kids as memory has.
func TestWide(t *testing.T) {
	const many = 1 << 20
	kids := make([]term.Term, many)
	for i := range kids {
		kids[i] = []term.Term{v("x"), fun("x", v("x")), v("y")}[i%3]
	}
	wide := of(term.Let, "x", kids...)
	low := chain(300, 1, 0, func(d int) term.Term {
		if d == 300 {
			return wide
		}
		return of(term.Fun, "y")
	})
	for i, x := range []term.Term{wide, low} {
		u, next := scope.Rename(x, 1)
		if want := 1 + 299*i + many/3; next != want+1 || scope.Count(x) != want {
			t.Fatal(i, next, scope.Count(x))
		}
		y := []string{"y", "299"}[i]
		down(u, 1+299*i, 0, func(d int, z term.Term) { u = z })
		for j, k := range u.Kids {
			want := []string{"x", strconv.Itoa(2 + 299*i + j/3), y}[j%3]
			if j == many-1 {
				want = u.Name
			}
			if k.Name != want || j%3 == 1 && k.Kids[0].Name != want {
				t.Fatal(i, j, k, want)
			}
		}
	}
}

// P1, P7.1: terms that share their Kids count as often as they stand there; where they are too many to be right, that is told without going through all.
func TestShared(t *testing.T) {
	x := fun("x", v("x"))
	for range 16 {
		x = of(term.Seq, "", x, x)
	}
	u, next := scope.Rename(x, 0)
	if next != 1<<16 || scope.Count(x) != 1<<16 {
		t.Error(next, scope.Count(x))
	}
	seen := 0
	each(&u, func(y *term.Term) {
		if y.Kind == term.Fun {
			if y.Name != strconv.Itoa(seen) || y.Kids[0].Name != y.Name {
				t.Fatal(seen, y)
			}
			seen++
		}
	})
	for range 30 {
		x = of(term.Seq, "", x, x)
	}
	for _, p := range []prog.Prog{{Body: x}, {Defs: []prog.Def{{Name: "f", T: fun("y", x)}}, Body: num(1)}} {
		if _, e := scope.Resolve(p); e != api.ErrArg {
			t.Error(e)
		}
	}
}
