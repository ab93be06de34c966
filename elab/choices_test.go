package elab_test

import (
	"slices"
	"testing"

	"chancel/api"
	"chancel/elab"
	"chancel/prog"
	"chancel/scope"
	"chancel/shape"
	"chancel/term"
)

// shapesTo tells all shapes without Holes of at most that size.
func shapesTo(size int) []shape.Shape {
	of := map[int][]shape.Shape{1: {in, ref}}
	all := slices.Clone(of[1])
	for n := 3; n <= size; n += 2 {
		for first := 1; first < n-1; first += 2 {
			for _, a := range of[first] {
				for _, b := range of[n-1-first] {
					of[n] = append(of[n], to(a, b))
				}
			}
		}
		all = append(all, of[n]...)
	}
	return all
}

// choices tells each choice of shapes from a list for t, and what is in it, that is as the chapter asks: all choices are tried, nothing is worked out.
func choices(t term.Term, names map[string]shape.Shape, from []shape.Shape) []elab.Tree {
	bound := []shape.Shape{{}}
	if binds(t.Kind) {
		bound = from
	}
	var all []elab.Tree
	for _, b := range bound {
		if binds(t.Kind) {
			names[t.Name] = b
		}
		rows := [][]elab.Tree{nil}
		for _, k := range t.Kids {
			var longer [][]elab.Tree
			kids := choices(k, names, from)
			for _, r := range rows {
				for _, x := range kids {
					longer = append(longer, append(slices.Clone(r), x))
				}
			}
			rows = longer
		}
		for _, kids := range rows {
			for _, s := range from {
				x := elab.Tree{Kind: t.Kind, Name: t.Name, N: t.N, S: s, B: b, Kids: kids}
				if local(x, names) {
					all = append(all, x)
				}
			}
		}
	}
	return all
}

// leads asks whether b is a with something in the place of some Ints.
func leads(a, b shape.Shape) bool {
	return a.Kind == shape.Int || a.Kind == b.Kind && slices.EqualFunc(a.Kids, b.Kids, leads)
}

// leadsAll asks that of all shapes in two trees.
func leadsAll(a, b elab.Tree) bool {
	return leads(a.S, b.S) && (!binds(a.Kind) || leads(a.B, b.B)) && slices.EqualFunc(a.Kids, b.Kids, leadsAll)
}

// small is the program of a body, in which a is an input, and c a cell.
func small(body term.Term) prog.Prog {
	return prog.Prog{
		Inputs: []prog.Decl{{Name: "a", Label: "A"}},
		Cells:  []prog.Decl{{Name: "c", Label: "A"}},
		Body:   body,
	}
}

// chosen holds what is told of a small program with that body against all choices from a list, and tells whether it has shapes. What is told meets what is asked, and what it has beside Ints each choice has there; so it is the most general one, with Ints for the Holes.
func chosen(t *testing.T, body term.Term, from []shape.Shape) bool {
	t.Helper()
	p := small(body)
	q, e := scope.Resolve(p)
	u, f := elab.Elab(p)
	if e != api.OK {
		if f != e || !nothing(u) {
			t.Fatal(prog.Print(p), e, f)
		}
		return false
	}
	all := slices.DeleteFunc(choices(q.Body, given(q), from), func(x elab.Tree) bool { return !shape.Same(x.S, in) })
	if f != api.OK {
		if f != api.ErrShape || !nothing(u) || len(all) > 0 {
			t.Fatal(prog.Print(p), f, len(all))
		}
		return false
	}
	if !meetsAll(p, u) {
		t.Fatal(prog.Print(p), texts(u))
	}
	for _, x := range all {
		if !leadsAll(u.Body, x) {
			t.Fatal(prog.Print(p), texts(u), text(x))
		}
	}
	return true
}

// heads has a term of each Kind, without Kids; the names are x, that of what a Var may be beside it, and those of all operators, if many is asked.
func heads(many bool) []term.Term {
	var all []term.Term
	for _, kind := range allKinds {
		switch {
		case kind == term.Num:
			all = append(all, num(1))
		case kind == term.Var:
			all = append(all, v("x"), v("a"), v("c"))
		case binds(kind):
			all = append(all, of(kind, "x"))
		case kind == term.Op && many:
			for _, name := range operators {
				all = append(all, of(kind, name))
			}
		case kind == term.Op:
			all = append(all, of(kind, "+"))
		default:
			all = append(all, of(kind, ""))
		}
	}
	return all
}

// rows tells all rows of so many terms that have that size together.
func rows(many, size int, heads []term.Term) [][]term.Term {
	if many == 0 {
		if size == 0 {
			return [][]term.Term{nil}
		}
		return nil
	}
	var all [][]term.Term
	for first := 1; first <= size-many+1; first++ {
		rest := rows(many-1, size-first, heads)
		if len(rest) == 0 {
			continue
		}
		for _, x := range allOf(first, heads) {
			for _, r := range rest {
				all = append(all, append([]term.Term{x}, r...))
			}
		}
	}
	return all
}

// allOf tells all terms of that size made of the heads, which have as many Kids as they have to.
func allOf(size int, heads []term.Term) []term.Term {
	var all []term.Term
	for _, h := range heads {
		for _, kids := range rows(kidsOf[h.Kind], size-1, heads) {
			h.Kids = kids
			all = append(all, h)
		}
	}
	return all
}

// P9.2: all small bodies against all choices, as they are, and where any shape may be.
func TestAllChoices(t *testing.T) {
	for size := 1; size <= 5; size++ {
		from := shapesTo(5)
		if size > 3 {
			from = shapesTo(3)
		}
		shaped, not := 0, 0
		for _, x := range allOf(size, heads(size <= 3)) {
			bodies := []term.Term{x}
			if size < 5 {
				bodies = append(bodies, seq(x, num(1)))
			}
			for _, body := range bodies {
				if chosen(t, body, from) {
					shaped++
				} else {
					not++
				}
			}
		}
		if shaped == 0 || not == 0 {
			t.Error(size, shaped, not)
		}
	}
}

// P9.2: functions of two and three names that are used where they are.
func TestFunctionChoices(t *testing.T) {
	names := []term.Term{v("x"), v("y"), num(1), v("c"), {Kind: term.App}, {Kind: term.Get}, {Kind: term.Set}, {Kind: term.Raise}}
	shaped := 0
	for size := 1; size <= 5; size++ {
		for _, x := range allOf(size, names) {
			from := shapesTo(5)
			if size > 3 {
				from = shapesTo(3)
			}
			if chosen(t, seq(fun("x", fun("y", x)), num(1)), from) {
				shaped++
			}
		}
	}
	if shaped < 100 {
		t.Error(shaped)
	}
}

// bodiesOf tells all terms of at most three parts, the names being these.
func bodiesOf(names ...string) []term.Term {
	heads := []term.Term{num(1), {Kind: term.App}, {Kind: term.Get}, {Kind: term.Seq}}
	for _, name := range names {
		heads = append(heads, v(name))
	}
	return slices.Concat(allOf(1, heads), allOf(2, heads), allOf(3, heads))
}

// P9.2: all small programs of two definitions against the model.
func TestAllPrograms(t *testing.T) {
	seen := map[api.Errno]int{}
	for _, x := range bodiesOf("x", "c") {
		for _, y := range bodiesOf("x", "f", "c") {
			for _, z := range bodiesOf("f", "g", "c") {
				p := small(z)
				p.Defs = []prog.Def{{Name: "f", T: fun("x", x)}, {Name: "g", T: fun("x", y)}}
				_, e := elaborates(t, p)
				seen[e]++
			}
		}
	}
	if len(seen) != 2 || seen[api.OK] < 1000 || seen[api.ErrShape] < 1000 {
		t.Error(seen)
	}
}
