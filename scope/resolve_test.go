package scope_test

import (
	"reflect"
	"slices"
	"strconv"
	"strings"
	"testing"

	"chancel/api"
	"chancel/prog"
	"chancel/scope"
	"chancel/term"
)

// resolves holds what is told of p against the model, and tells the error.
func resolves(t *testing.T, p prog.Prog) api.Errno {
	t.Helper()
	want, e := modelResolve(p)
	got, f := scope.Resolve(p)
	if f != e || !prog.Same(got, want) || f != api.OK && !reflect.DeepEqual(got, prog.Prog{}) {
		t.Fatalf("%v: %v, %d, not %v, %d", p, got, f, want, e)
	}
	return f
}

// parsed is the program that s is a text of.
func parsed(t *testing.T, s string) prog.Prog {
	t.Helper()
	p, e := prog.Parse(s)
	if e != api.OK {
		t.Fatal(s, e)
	}
	return p
}

// P7.2: programs by their texts, and the error, or the names of all binders from the first Def on.
func TestResolve(t *testing.T) {
	for _, c := range []struct {
		text string
		want api.Errno
	}{
		{"1", api.OK},
		{"x", api.ErrName},
		{"fun x => x", api.OK},
		{"fun x => y", api.ErrName},
		{"let x = x in x", api.ErrName},
		{"try x with x => x", api.ErrName},
		{"let x = 1 in x ; x", api.OK},
		{"(let x = 1 in x) ; x", api.ErrName},
		{"input x : Lo . x", api.OK},
		{"input x : Lo . let x = x in x", api.OK},
		{"input x : Lo . y", api.ErrName},
		{"input x : Lo . Lo", api.ErrName},
		{"input x : x . x", api.OK},
		{"cell c : Lo = 0 . c := ! c", api.OK},
		{"cell c : Lo = 0 . d := ! c", api.ErrName},
		{"cell c : Lo = 0 . c := ! d", api.ErrName},
		{"cell c : Lo = 0 . ! Lo", api.ErrName},
		{"def f = fun x => x . f 1", api.OK},
		{"def f = fun x => x . x", api.ErrName},
		{"def f = fun x => f x . 1", api.ErrName},
		{"def f = fun f => f . f", api.OK},
		{"def f = fun x => g x . def g = fun x => x . 1", api.ErrName},
		{"def g = fun x => x . def f = fun x => g x . f 1", api.OK},
		{"def g = fun x => x . def f = fun x => f x . f 1", api.ErrName},
		{"def f = fun g => g . def g = fun x => f x . g f", api.OK},
		{"input x : Lo . cell c : Lo = 0 . def f = fun y => c := x . f x", api.OK},
		{"input x : Lo . cell c : Lo = 0 . def f = fun x => c := x . f x", api.OK},
		{"input x : Lo . input x : Lo . 1", api.ErrTwice},
		{"input x : Lo . input x : Hi . 1", api.ErrTwice},
		{"input x : Lo . input y : Lo . input x : Lo . 1", api.ErrTwice},
		{"cell c : Lo = 0 . cell c : Lo = 1 . 1", api.ErrTwice},
		{"def f = fun x => x . def f = fun y => y . 1", api.ErrTwice},
		{"input x : Lo . cell x : Lo = 0 . x", api.ErrTwice},
		{"input x : Lo . def x = fun y => y . x", api.ErrTwice},
		{"cell x : Lo = 0 . def x = fun y => y . x", api.ErrTwice},
		{"input x : Lo . input X : Lo . x", api.OK},
		// Of two errors the one that is named first.
		{"input x : Lo . input x : Lo . z", api.ErrTwice},
		{"def f = fun x => z . def g = fun x => x . def g = fun x => x . 1", api.ErrTwice},
		{"def f = fun x => f x . def f = fun x => z . z", api.ErrTwice},
	} {
		if e := resolves(t, parsed(t, c.text)); e != c.want {
			t.Errorf("%q: %d, not %d", c.text, e, c.want)
		}
	}
}

// P7.2: Defs and Body, each going on where the one ahead ended, to the letter; all else as it was.
func TestNumbersGoOn(t *testing.T) {
	p := parsed(t, "input h : Hi . input l : Lo . cell c : Hi = 7 . cell d : Lo = 0 . def f = fun x => fun y => x y . def g = fun y => let x = f y in (try x with h => h) ; h . let l = l in (fun c => c l) ; (fun x => c := x)")
	want := prog.Prog{
		Inputs: []prog.Decl{{Name: "h", Label: "Hi"}, {Name: "l", Label: "Lo"}},
		Cells:  []prog.Decl{{Name: "c", Label: "Hi", N: 7}, {Name: "d", Label: "Lo"}},
		Defs: []prog.Def{
			{Name: "f", T: fun("1", fun("2", of(term.App, "", v("1"), v("2"))))},
			{Name: "g", T: fun("3", of(term.Let, "4", of(term.App, "", v("f"), v("3")), of(term.Seq, "", of(term.Try, "5", v("4"), v("5")), v("h"))))},
		},
		Body: of(term.Let, "6", v("l"), of(term.Seq, "", fun("7", of(term.App, "", v("7"), v("6"))), fun("8", of(term.Set, "", v("c"), v("8"))))),
	}
	got, e := scope.Resolve(p)
	if e != api.OK || !prog.Same(got, want) {
		t.Error(got, e)
	}
	if e := resolves(t, p); e != api.OK {
		t.Error(e)
	}
	// What is renamed has numbers as names, and so is not right.
	if e := resolves(t, got); e != api.ErrArg {
		t.Error(e)
	}
}

// P7.2: all small programs against the model.
func TestAllPrograms(t *testing.T) {
	names := []string{"a", "b", "f"}
	terms := []term.Term{num(1), v("a"), v("f"), fun("a", v("b")), fun("f", of(term.App, "", v("f"), v("a"))), fun("x", v("x")), of(term.Let, "b", v("b"), v("b")), of(term.Fun, "a"), fun("1", v("1"))}
	seen := map[api.Errno]int{}
	var decls [][]prog.Decl
	for n := range 3 {
		rowsOf(n, len(names), func(row []int) {
			var l []prog.Decl
			for _, i := range row {
				l = append(l, prog.Decl{Name: names[i], Label: "f"})
			}
			decls = append(decls, l)
		})
	}
	for _, inputs := range decls {
		for _, cells := range decls {
			for n := range 3 {
				rowsOf(n+1, len(terms), func(row []int) {
					p := prog.Prog{Inputs: inputs, Cells: cells, Body: terms[row[n]]}
					for i, at := range row[:n] {
						p.Defs = append(p.Defs, prog.Def{Name: []string{"f", "g"}[i], T: terms[at]})
					}
					seen[resolves(t, p)]++
				})
			}
		}
	}
	for _, e := range []api.Errno{api.OK, api.ErrArg, api.ErrTwice, api.ErrName} {
		if seen[e] < 100 {
			t.Error(e, seen[e])
		}
	}
	if len(seen) != 4 {
		t.Error(seen)
	}
}

// rowsOf hands in each row of n of the numbers below that.
func rowsOf(n, below int, see func(row []int)) {
	if n == 0 {
		see(nil)
		return
	}
	rowsOf(n-1, below, func(row []int) {
		for i := range below {
			see(append(row[:n-1:n-1], i))
		}
	})
}

// full is a right program with so many of each kind, all names unlike; each Def, and Body, asks for the last name that it may.
func full(inputs, cells, defs int) prog.Prog {
	p := prog.Prog{}
	last := ""
	for i := range inputs {
		last = "i" + strconv.Itoa(i)
		p.Inputs = append(p.Inputs, prog.Decl{Name: last, Label: "A"})
	}
	for i := range cells {
		last = "c" + strconv.Itoa(i)
		p.Cells = append(p.Cells, prog.Decl{Name: last, Label: "B", N: int64(i)})
	}
	for i := range defs {
		p.Defs = append(p.Defs, prog.Def{Name: "d" + strconv.Itoa(i), T: fun("x", fun("y", v(last)))})
		last = "d" + strconv.Itoa(i)
	}
	p.Body = fun("x", v(last))
	return p
}

// P7.2: as many of each kind as there may be, and one more; and two of one name, wherever they stand.
func TestMany(t *testing.T) {
	p := full(32, 32, 32)
	if e := resolves(t, p); e != api.OK {
		t.Error(e)
	}
	q, _ := scope.Resolve(p)
	if q.Defs[31].T.Name != "63" || q.Body.Name != "65" {
		t.Error(q.Defs[31].T.Name, q.Body.Name)
	}
	for _, p := range []prog.Prog{full(33, 1, 1), full(1, 33, 1), full(1, 1, 33)} {
		if e := resolves(t, p); e != api.ErrArg {
			t.Error(e)
		}
	}
	for i := range 96 {
		for j := range i {
			p := full(32, 32, 32)
			named := make([]*string, 0, 96)
			for k := range 32 {
				named = append(named, &p.Inputs[k].Name)
			}
			for k := range 32 {
				named = append(named, &p.Cells[k].Name)
			}
			for k := range 32 {
				named = append(named, &p.Defs[k].Name)
			}
			*named[i] = *named[j]
			if _, e := scope.Resolve(p); e != api.ErrTwice {
				t.Fatal(i, j, e)
			}
		}
	}
}

// P7.2: of what stands ahead of it each Def may name all, and of what stands behind nothing.
func TestAhead(t *testing.T) {
	p := full(3, 3, 6)
	for i := range p.Defs {
		for j := range p.Defs {
			was := p.Defs[i].T
			p.Defs[i].T = fun("x", of(term.App, "", v("x"), v("d"+strconv.Itoa(j))))
			want := api.OK
			if j >= i {
				want = api.ErrName
			}
			if e := resolves(t, p); e != want {
				t.Error(i, j, e)
			}
			p.Defs[i].T = was
		}
		for j := range 3 {
			for _, kind := range []string{"i", "c"} {
				was := p.Defs[i].T
				p.Defs[i].T = fun("x", v(kind+strconv.Itoa(j)))
				if e := resolves(t, p); e != api.OK {
					t.Error(i, j, e)
				}
				p.Defs[i].T = was
			}
		}
	}
	for _, name := range []string{"i0", "i1", "i2", "c0", "c1", "c2", "d0", "d1", "d2", "d3", "d4", "d5"} {
		p.Body = of(term.Seq, "", num(1), of(term.Get, "", v(name)))
		if e := resolves(t, p); e != api.OK {
			t.Error(name, e)
		}
	}
	for _, name := range []string{"i3", "c3", "d6", "A", "B", "x", "y"} {
		p.Body = of(term.Seq, "", num(1), of(term.Get, "", v(name)))
		if e := resolves(t, p); e != api.ErrName {
			t.Error(name, e)
		}
	}
}

// P7.2: what is not right, in each of its ways, whatever else is wrong with it.
func TestWrong(t *testing.T) {
	long := prog.Prog{Body: of(term.Seq, "", v("z"), v("z"))}
	for range 32 {
		long.Defs = append(long.Defs, prog.Def{Name: "f", T: fun("x", flat(9999))})
	}
	for name, change := range map[string]func(p *prog.Prog){
		"nothing":              func(p *prog.Prog) { *p = prog.Prog{} },
		"no body":              func(p *prog.Prog) { p.Body = term.Term{} },
		"a wrong body":         func(p *prog.Prog) { p.Body = of(term.Fun, "x") },
		"a body too deep":      func(p *prog.Prog) { p.Body = chain(201, 1, 0, func(int) term.Term { return fun("x", num(1)) }) },
		"a body too great":     func(p *prog.Prog) { p.Body = flat(10001) },
		"a def of no fun":      func(p *prog.Prog) { p.Defs[0].T = num(1) },
		"a wrong def":          func(p *prog.Prog) { p.Defs[0].T = fun("1", v("x")) },
		"a def without a name": func(p *prog.Prog) { p.Defs[0].Name = "" },
		"an input's number":    func(p *prog.Prog) { p.Inputs[0].N = 1 },
		"an input's label":     func(p *prog.Prog) { p.Inputs[0].Label = "" },
		"an input's name":      func(p *prog.Prog) { p.Inputs[0].Name = "let" },
		"a cell's number":      func(p *prog.Prog) { p.Cells[0].N = -1 },
		"a cell's name":        func(p *prog.Prog) { p.Cells[0].Name = "1" },
		"a text too long":      func(p *prog.Prog) { *p = long },
	} {
		p := full(2, 2, 2)
		p.Cells[1].Name = p.Inputs[1].Name
		p.Body = v("z")
		if e := resolves(t, p); e != api.ErrTwice {
			t.Error(name, e)
		}
		change(&p)
		if e := resolves(t, p); e != api.ErrArg {
			t.Error(name, e)
		}
	}
}

// flat is a right term of that size, but for how great that is.
func flat(size int) term.Term {
	if size < 3 {
		return []term.Term{num(1), of(term.Get, "", num(1))}[size-1]
	}
	return of(term.Seq, "", flat((size-1)/2), flat(size-1-(size-1)/2))
}

// P7.2: the greatest programs that are right.
func TestGreat(t *testing.T) {
	deep := chain(200, 1, 0, func(depth int) term.Term {
		if depth == 200 {
			return v(strings.Repeat("q", 16))
		}
		return of(term.Fun, "x")
	})
	p := prog.Prog{Cells: []prog.Decl{{Name: strings.Repeat("q", 16), Label: "A"}}, Defs: []prog.Def{{Name: "f", T: deep}, {Name: "g", T: deep}}, Body: deep}
	if e := resolves(t, p); e != api.OK {
		t.Error(e)
	}
	q, _ := scope.Resolve(p)
	if q.Defs[0].T.Name != "1" || q.Defs[1].T.Name != "200" || q.Body.Name != "399" {
		t.Error(q.Defs[1].T.Name, q.Body.Name)
	}
	if e := resolves(t, prog.Prog{Body: flat(10000)}); e != api.OK {
		t.Error(e)
	}
}

// P3: what is handed in stays as it is, and so does what stands behind it; what is told is memory of its own.
func TestResolveMemory(t *testing.T) {
	given := func() prog.Prog {
		p := full(3, 3, 3)
		p.Inputs = append(p.Inputs, prog.Decl{Name: "spare"})[:3]
		p.Cells = append(p.Cells, prog.Decl{Name: "spare"})[:3]
		p.Defs = append(p.Defs, prog.Def{Name: "spare"})[:3]
		for i := range p.Defs {
			p.Defs[i].T = copied(p.Defs[i].T)
		}
		p.Body = copied(p.Body)
		return p
	}
	kept := func(p prog.Prog) bool {
		ok := prog.Same(p, given()) && spared(p.Body) && p.Inputs[:4][3].Name == "spare" && p.Cells[:4][3].Name == "spare" && p.Defs[:4][3].Name == "spare"
		return ok && !slices.ContainsFunc(p.Defs, func(d prog.Def) bool { return !spared(d.T) })
	}
	p := given()
	q, e := scope.Resolve(p)
	if e != api.OK || !kept(p) {
		t.Error("what was handed in is another", e)
	}
	for _, l := range [][]prog.Decl{q.Inputs, q.Cells} {
		_ = append(l, prog.Decl{Name: "more"})
		for i := range l {
			l[i].Name = "seen"
		}
	}
	_ = append(q.Defs, prog.Def{Name: "more"})
	for i := range q.Defs {
		q.Defs[i].Name = "seen"
		each(&q.Defs[i].T, func(x *term.Term) { x.Name = "seen" })
	}
	each(&q.Body, func(x *term.Term) { x.Name = "seen" })
	if !kept(p) {
		t.Error("the answer shares memory with what was handed in")
	}
}
