package elab_test

import (
	"testing"

	"chancel/api"
	"chancel/elab"
	"chancel/prog"
	"chancel/shape"
	"chancel/term"
)

// P9.2: the shapes of programs, to the letter.
func TestElab(t *testing.T) {
	for _, c := range []struct{ text, want string }{
		{"1", "int"},
		{"input a : A . a", "int"},
		{"(fun x => x) ; 1", "int, (int -> int) : int, int, int"},
		{"(fun x => 2) 1", "int, (int -> int) : int, int, int"},
		{"cell c : A = 0 . c ; 1", "int, ref, int"},
		{"cell c : A = 0 . ! c", "int, ref"},
		{"cell c : A = 0 . c := 1", "int, ref, int"},
		{"cell c : A = 0 . ((fun x => x) c) ; 1", "int, ref, (ref -> ref) : ref, ref, ref, int"},
		{"cell c : A = 0 . let x = c in ! x", "int : ref, ref, int, ref"},
		{"let f = fun x => x in 1", "int : (int -> int), (int -> int) : int, int, int"},
		{"(fun x => ! x) ; 1", "int, (ref -> int) : ref, int, ref, int"},
		{"(fun x => fun y => x := y) ; 1", "int, (ref -> (int -> int)) : ref, (int -> int) : int, int, ref, int, int"},
		{"(fun f => fun x => f (f x)) ; 1", "int, ((int -> int) -> (int -> int)) : (int -> int), (int -> int) : int, int, (int -> int), int, (int -> int), int, int"},
		{"(fun f => f 1 2) ; 1", "int, ((int -> (int -> int)) -> int) : (int -> (int -> int)), int, (int -> int), (int -> (int -> int)), int, int, int"},
		{"if 0 then 1 else 2", "int, int, int, int"},
		{"cell c : A = 0 . ! (if 0 then raise 1 else c)", "int, ref, int, ref, int, ref"},
		{"cell c : A = 0 . ! (if 0 then c else raise 1)", "int, ref, int, ref, ref, int"},
		{"while 0 do (fun x => x)", "int, int, (int -> int) : int, int"},
		{"raise 1", "int, int"},
		{"! (raise 1)", "int, ref, int"},
		{"(raise 1) (raise 2)", "int, (int -> int), int, int, int"},
		{"(raise 1) ; 2", "int, int, int, int"},
		{"try 1 with x => x", "int : int, int, int"},
		{"cell c : A = 0 . ! (try raise 1 with x => c)", "int, ref : int, ref, int, ref"},
		{"cell c : A = 0 . ! (try c with x => raise x)", "int, ref : int, ref, ref, int"},
		{"(try (fun x => 1) with e => fun y => ! y) ; 1", "int, (ref -> int) : int, (ref -> int) : ref, int, (ref -> int) : ref, int, ref, int"},
		{"1 + 2", "int, int, int"},
		{"cell c : A = 0 . (c := 1) + (while 0 do c)", "int, int, ref, int, int, int, ref"},
		{"1 ; 2", "int, int, int"},
		{"let x = 1 in let x = fun y => x in x 2", "int : int, int, int : (int -> int), (int -> int) : int, int, int, (int -> int), int"},
		{"def f = fun x => x . 1", "f = (int -> int) : int, int\nint"},
		{"def f = fun x => x . f 1", "f = (int -> int) : int, int\nint, (int -> int), int"},
		{"cell c : A = 0 . def f = fun x => x . ! (f c)", "f = (ref -> ref) : ref, ref\nint, ref, (ref -> ref), ref"},
		{"cell c : A = 0 . def f = fun x => x . def g = fun y => f . ! (g 1 c)", "f = (ref -> ref) : ref, ref\ng = (int -> (ref -> ref)) : int, (ref -> ref)\nint, ref, (ref -> ref), (int -> (ref -> ref)), int, ref"},
		{"def f = fun f => f 1 . f (fun x => x)", "f = ((int -> int) -> int) : (int -> int), int, (int -> int), int\nint, ((int -> int) -> int), (int -> int) : int, int"},
	} {
		u, e := elaborates(t, parsed(t, c.text))
		if got := texts(u); e != api.OK || got != c.want {
			t.Errorf("%q: %d, %q, not %q", c.text, e, got, c.want)
		}
	}
}

// P9.2: programs that have no shapes.
func TestNoShapes(t *testing.T) {
	for _, text := range []string{
		"1 2",
		"fun x => x",
		"cell c : A = 0 . c",
		"input a : A . ! a",
		"input a : A . a := 1",
		"input a : A . a 1",
		"cell c : A = 0 . c 1",
		"cell c : A = 0 . c := c",
		"cell c : A = 0 . c := fun x => x",
		"cell c : A = 0 . (if c then 1 else 2)",
		"cell c : A = 0 . (if 0 then c else 2) ; 1",
		"cell c : A = 0 . (if 0 then 2 else c) ; 1",
		"cell c : A = 0 . while c do 1",
		"(while 1 do 2) 3",
		"raise (fun x => x)",
		"cell c : A = 0 . raise c",
		"cell c : A = 0 . (try c with x => x) ; 1",
		"(try 1 with x => ! x) ; 1",
		"(try 1 with x => x 1) ; 1",
		"cell c : A = 0 . c + 1",
		"cell c : A = 0 . 1 + c",
		"cell c : A = 0 . c = c",
		"(1 + 2) 3",
		"cell c : A = 0 . ! (! c)",
		"cell c : A = 0 . ! (c := 1)",
		"(1 ; fun x => x)",
		"! (fun x => x)",
		"(fun x => x) := 1",
		"(fun x => x x) ; 1",
		"(fun x => fun y => x y ; y x) ; 1",
		"(fun x => x (fun y => x)) ; 1",
		"(try (fun x => x) with e => fun y => ! y) ; 1",
		// A name has one shape, wherever it is used.
		"cell c : A = 0 . let f = fun x => x in (f c ; f 1)",
		"cell c : A = 0 . def f = fun x => x . f c ; f 1",
		"cell c : A = 0 . def f = fun x => x . def g = fun x => f c . f 1",
		"cell c : A = 0 . def f = fun x => x . def g = fun x => f 1 . ! (f c)",
		"def f = fun x => x . f f ; 1",
		// What is never run counts, too.
		"def f = fun x => 1 2 . 3",
		"def f = fun x => x . def g = fun x => x x . 3",
		"let f = fun x => ! 1 in 3",
	} {
		if _, e := elaborates(t, parsed(t, text)); e != api.ErrShape {
			t.Errorf("%q: %d", text, e)
		}
	}
}

// P9.2, P2: an error of Resolve is told ahead of that there are no shapes, and each with nothing else.
func TestErrors(t *testing.T) {
	for _, c := range []struct {
		text string
		want api.Errno
	}{
		{"z", api.ErrName},
		{"1 2 ; z", api.ErrName},
		{"def f = fun x => 1 2 . z", api.ErrName},
		{"def f = fun x => f x . 1 2", api.ErrName},
		{"let x = x in 1 2", api.ErrName},
		{"input a : A . input a : A . 1 2", api.ErrTwice},
		{"input a : A . cell a : A = 0 . ! a", api.ErrTwice},
		{"def f = fun x => x x . def f = fun x => z . 1", api.ErrTwice},
	} {
		if _, e := elaborates(t, parsed(t, c.text)); e != c.want {
			t.Errorf("%q: %d, not %d", c.text, e, c.want)
		}
	}
	noShape := app(num(1), num(2))
	two := []prog.Decl{{Name: "a", Label: "A"}, {Name: "a", Label: "A"}}
	for i, p := range []prog.Prog{
		{},
		{Body: of(term.App, "", num(1))},
		{Body: of(term.App, "", num(1), num(2), num(3))},
		{Body: term.Term{Kind: 14, Kids: []term.Term{noShape}}},
		{Body: of(term.Fun, "1", v("1"))},
		{Body: seq(noShape, num(-1))},
		{Inputs: two, Body: seq(noShape, of(term.Op, "/", num(1), num(1)))},
		{Inputs: []prog.Decl{{Name: "a", Label: "A", N: 1}}, Body: noShape},
		{Cells: []prog.Decl{{Name: "a", Label: "A", N: -1}}, Body: noShape},
		{Cells: []prog.Decl{{Name: "a", Label: "1"}}, Body: v("z")},
		{Defs: []prog.Def{{Name: "f", T: num(1)}}, Body: noShape},
		{Defs: []prog.Def{{Name: "f", T: of(term.Fun, "x")}}, Body: noShape},
		{Defs: []prog.Def{{Name: "let", T: fun("x", v("x"))}}, Body: num(1)},
		{Defs: make([]prog.Def, 33), Body: num(1)},
	} {
		if _, e := elaborates(t, p); e != api.ErrArg {
			t.Error(i, e)
		}
	}
}

// P9.3: what Resolve tells of a program is no program, as its names are numbers; so there are no trees of it.
func TestTwiceResolved(t *testing.T) {
	u, _ := elaborates(t, parsed(t, "let x = 1 in x"))
	if _, e := elaborates(t, prog.Prog{Body: elab.Bare(u.Body)}); e != api.ErrArg {
		t.Error(e)
	}
}

// P9.2, P9.3: the names of the trees: what is declared keeps its own, each binder has a number.
func TestNames(t *testing.T) {
	p := parsed(t, "input a : A . cell c : A = 7 . def f = fun x => fun a => a ; x . def g = fun c => c + a . let c = c in (try f (! c) a with a => g a)")
	u, e := elaborates(t, p)
	if e != api.OK || len(u.Defs) != 2 || u.Defs[0].Name != "f" || u.Defs[1].Name != "g" {
		t.Fatal(e, u)
	}
	call := app(app(v("f"), of(term.Get, "", v("4"))), v("a"))
	for i, c := range []struct {
		got  elab.Tree
		want term.Term
	}{
		{u.Defs[0].T, fun("1", fun("2", seq(v("2"), v("1"))))},
		{u.Defs[1].T, fun("3", of(term.Op, "+", v("3"), v("a")))},
		{u.Body, of(term.Let, "4", v("c"), of(term.Try, "5", call, app(v("g"), v("5"))))},
	} {
		if !term.Same(elab.Bare(c.got), c.want) {
			t.Error(i, elab.Bare(c.got))
		}
	}
	if want := "int : ref, ref, int : int, int, (int -> int), (int -> (int -> int)), int, ref, int, int, (int -> int), int"; text(u.Body) != want {
		t.Error(text(u.Body))
	}
}

// trees has a tree that differs from the first one in one thing, for each thing.
func trees() []elab.Tree {
	var all []elab.Tree
	for _, change := range []func(x *elab.Tree){
		func(x *elab.Tree) {},
		func(x *elab.Tree) { x.Kind++ },
		func(x *elab.Tree) { x.Kind = 0 },
		func(x *elab.Tree) { x.Name = "y" },
		func(x *elab.Tree) { x.Name = "" },
		func(x *elab.Tree) { x.N = 5 },
		func(x *elab.Tree) { x.N = -1 },
		func(x *elab.Tree) { x.S.Kind = shape.Hole },
		func(x *elab.Tree) { x.S.N = 5 },
		func(x *elab.Tree) { x.S.Kids = []shape.Shape{ref, ref} },
		func(x *elab.Tree) { x.S.Kids = nil },
		func(x *elab.Tree) { x.S = shape.Shape{} },
		func(x *elab.Tree) { x.B.Kind = shape.Int },
		func(x *elab.Tree) { x.B.N = 5 },
		func(x *elab.Tree) { x.B.Kids = []shape.Shape{in} },
		func(x *elab.Tree) { x.B = shape.Shape{} },
		func(x *elab.Tree) { x.S, x.B = x.B, x.S },
		func(x *elab.Tree) { x.Kids = nil },
		func(x *elab.Tree) { x.Kids = append(x.Kids, elab.Tree{}) },
		func(x *elab.Tree) { x.Kids = append([]elab.Tree{{}}, x.Kids...) },
	} {
		x := elab.Tree{Kind: term.Fun, Name: "x", N: 4, S: to(in, ref), B: shape.Shape{Kind: shape.Hole, N: 3}, Kids: []elab.Tree{{Kind: 1, N: 7, S: in}}}
		change(&x)
		all = append(all, x)
	}
	return all
}

// P9.1: two trees are the same just if all of them is, wherever they differ.
func TestSame(t *testing.T) {
	all := append(trees(), elab.Tree{})
	for _, x := range trees() {
		all = append(all, elab.Tree{Kids: []elab.Tree{x}}, elab.Tree{Kids: []elab.Tree{{}, x, {Kids: []elab.Tree{x}}}}, elab.Tree{Kids: []elab.Tree{{}, {Kids: []elab.Tree{{}, x}}, {}}})
	}
	for i, x := range all {
		for j, y := range all {
			if got := elab.Same(x, y); got != (i == j) || got != modelSame(x, y) {
				t.Error(i, j, got)
			}
		}
	}
	// A list of nothing may be nil or empty.
	if !elab.Same(elab.Tree{Kids: []elab.Tree{}, S: shape.Shape{Kids: []shape.Shape{}}, B: shape.Shape{Kids: []shape.Shape{}}}, elab.Tree{}) {
		t.Error("nil and empty")
	}
}

// P9.1: the term alone, whatever the tree.
func TestBare(t *testing.T) {
	if x := elab.Bare(elab.Tree{}); !term.Same(x, term.Term{}) {
		t.Error(x)
	}
	for i, x := range trees() {
		for j, y := range []elab.Tree{x, {Kids: []elab.Tree{{Kind: 2, Name: "z"}, x, {}}}, {Kind: 5, Kids: []elab.Tree{{Kids: []elab.Tree{x, x}}}}} {
			if !sameTerm(y, elab.Bare(y)) {
				t.Error(i, j, elab.Bare(y))
			}
		}
	}
	x := elab.Tree{Kind: term.Let, Name: "x", N: -9, S: in, B: ref, Kids: []elab.Tree{{Kind: term.Num, N: 3, S: in}, {Kind: 77}}}
	if y := elab.Bare(x); !term.Same(y, term.Term{Kind: term.Let, Name: "x", N: -9, Kids: []term.Term{num(3), {Kind: 77}}}) {
		t.Error(y)
	}
}
