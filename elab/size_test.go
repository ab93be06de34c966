package elab_test

import (
	"strconv"
	"strings"
	"testing"

	"chancel/api"
	"chancel/elab"
	"chancel/prog"
	"chancel/shape"
	"chancel/term"
)

// funs is a function of so many names, and what stands in it; its shape has a Size of twice as much, and that of what stands in it.
func funs(many int, in string) string {
	return strings.Repeat("fun x => ", many) + in
}

// calls is what stands in front, called with so many numbers.
func calls(in string, many int) string {
	return "(" + in + ")" + strings.Repeat(" 1", many)
}

// P9.2: a shape has a Size of at most Most, 100: of 99, as one of a Fun is odd, and not of 101.
func TestMost(t *testing.T) {
	for i, c := range []struct {
		text func(n int) string
		most int
	}{
		{func(n int) string { return "(" + funs(n, "1") + ") ; 1" }, 49},
		{func(n int) string { return "(" + funs(n, "x") + ") ; 1" }, 49},
		{func(n int) string { return "(" + funs(n, "fun y => y 1") + ") ; 1" }, 47},
		{func(n int) string { return "def f = " + funs(n, "1") + " . 1" }, 49},
		{func(n int) string { return "def f = " + funs(n, "1") + " . " + calls("f", n) }, 49},
		{func(n int) string { return "def f = " + funs(n, "1") + " . def g = fun y => f . 1" }, 48},
		{func(n int) string { return "let f = " + funs(n, "1") + " in 1" }, 49},
		{func(n int) string { return "let f = (fun y => " + funs(n, "1") + ") 1 in 1" }, 48},
		{func(n int) string { return "while 0 do " + funs(n, "1") }, 49},
		{func(n int) string { return "fun y => (" + funs(n, "1") + " ; 1)" }, 0},
		{func(n int) string { return "(fun y => ((" + funs(n, "1") + ") ; 1)) 1" }, 49},
		{func(n int) string { return "(if 0 then raise 1 else " + funs(n, "1") + ") ; 1" }, 49},
		{func(n int) string { return "(try raise 1 with e => " + funs(n, "1") + ") ; 1" }, 49},
		// What a term is used for may make it great.
		{func(n int) string { return "(fun h => " + calls("h", n) + ") ; 1" }, 48},
		{func(n int) string { return "fun h => " + calls("h", n) }, 0},
		{func(n int) string { return calls("raise 1", n) }, 49},
		{func(n int) string { return "1 + " + "(" + calls("raise 1", n) + ")" }, 49},
		{func(n int) string { return "let x = raise 1 in " + calls("x", n) }, 49},
		{func(n int) string { return "(fun x => " + calls("x", n) + ") (raise 1)" }, 48},
		{func(n int) string { return "def f = fun x => " + calls("raise x", n) + " . 1" }, 49},
		{func(n int) string {
			return "(fun f => fun g => (if 0 then f else g) ; " + calls("f", n) + ") ; 1"
		}, 23},
		// Nested to the left.
		{func(n int) string { return strings.Repeat("(fun f => f ", n) + "1" + strings.Repeat(")", n) + " ; 1" }, 24},
	} {
		for n := max(1, c.most-3); n <= c.most+3; n++ {
			want := api.OK
			if n > c.most {
				want = api.ErrShape
			}
			if _, e := elaborates(t, parsed(t, c.text(n))); e != want {
				t.Error(i, n, e)
			}
		}
	}
}

// greatest tells the Size of the greatest shape in x.
func greatest(x elab.Tree) int {
	size := max(shape.Size(x.S), shape.Size(x.B))
	for _, k := range x.Kids {
		size = max(size, greatest(k))
	}
	return size
}

// P9.2: of the greatest that there are, too, the shapes are told whole.
func TestGreatestShapes(t *testing.T) {
	for i, text := range []string{
		"(" + funs(49, "1") + ") ; 1",
		calls("raise 1", 49),
		"let x = raise 1 in " + calls("x", 49),
		"(fun f => fun g => (if 0 then f else g) ; " + calls("f", 23) + ") ; 1",
	} {
		u, e := elaborates(t, parsed(t, text))
		if e != api.OK || greatest(u.Body) != []int{99, 99, 99, 97}[i] {
			t.Error(i, e, greatest(u.Body))
		}
	}
}

// P1, P9.2: shapes that would be greater than memory, as each is twice the one ahead, are none.
func TestDoubled(t *testing.T) {
	for n, want := range map[int]api.Errno{1: api.OK, 4: api.OK, 5: api.ErrShape, 8: api.ErrShape, 30: api.ErrShape, 150: api.ErrShape} {
		var text strings.Builder
		for i := range n {
			name, was := "p"+strconv.Itoa(i+1), "p"+strconv.Itoa(i)
			text.WriteString("let " + name + " = (fun k => k " + was + " " + was + ") in ")
		}
		p := parsed(t, "input p0 : A . "+text.String()+"1")
		u, e := elab.Elab(p)
		if e != want || e != api.OK && !nothing(u) || e == api.OK && greatest(u.Body) != 6<<n-5 {
			t.Error(n, e, greatest(u.Body))
		}
	}
}

// flat is a term that is made of so many f.
func flat(many int, f term.Term) term.Term {
	if many == 1 {
		return f
	}
	return seq(flat(many/2, f), flat(many-many/2, f))
}

// P9.2: the greatest programs, each shape of which is as great as it may be.
func TestGreat(t *testing.T) {
	w := parsed(t, funs(49, "1")).Body
	p := prog.Prog{
		Defs: []prog.Def{{Name: "f", T: w}, {Name: "g", T: fun("y", seq(flat(4999, v("f")), num(1)))}},
		Body: seq(flat(1200, v("f")), num(1)),
	}
	for range 2 {
		u, e := elaborates(t, p)
		if e != api.OK || greatest(u.Body) != 99 || greatest(u.Defs[1].T) != 99 {
			t.Error(e)
		}
		p.Defs[1].T = fun("y", seq(flat(4998, v("f")), app(v("f"), num(1)))) // of 10000 parts
		p.Body = seq(flat(1200, v("f")), app(calls49(), num(1)))
	}
	// One number more, and there is nothing that it is given to.
	p.Body = app(p.Body, num(1))
	if _, e := elaborates(t, p); e != api.ErrShape {
		t.Error(e)
	}
}

// calls49 is f, called with 48 numbers.
func calls49() term.Term {
	x := v("f")
	for range 48 {
		x = app(x, num(1))
	}
	return x
}

// P9.2: as many of each kind of names as there may be, as deep as a term may be.
func TestMany(t *testing.T) {
	p := prog.Prog{}
	for i := range 32 {
		n := strconv.Itoa(i)
		p.Inputs = append(p.Inputs, prog.Decl{Name: "i" + n, Label: "A"})
		p.Cells = append(p.Cells, prog.Decl{Name: "c" + n, Label: "A", N: int64(i)})
		x := of(term.Set, "", v("c"+n), v("x"))
		if i > 0 {
			x = seq(x, app(v("d"+strconv.Itoa(i-1)), v("i"+n)))
		}
		p.Defs = append(p.Defs, prog.Def{Name: "d" + n, T: fun("x", x)})
	}
	deep := app(v("d31"), v("i31"))
	for i := range 198 {
		deep = of(term.Let, "x", deep, app(v("d"+strconv.Itoa(i%32)), v("x")))
	}
	p.Body = deep
	if term.Depth(deep) != 200 {
		t.Fatal(term.Depth(deep))
	}
	if _, e := elaborates(t, p); e != api.OK {
		t.Error(e)
	}
	p.Body = of(term.Let, "x", deep, v("x"))
	if _, e := elaborates(t, p); e != api.ErrArg {
		t.Error(e)
	}
	// A shape that is asked for first in the last of all makes that of the first one another.
	for name, want := range map[string]api.Errno{"i0": api.OK, "c0": api.ErrShape, "d0": api.ErrShape} {
		p.Defs[0].T = fun("x", v("x"))
		p.Body = app(v("d31"), app(v("d0"), v(name)))
		if _, e := elaborates(t, p); e != want {
			t.Error(name, e)
		}
	}
}
