package elab_test

import (
	"math/rand"
	"slices"
	"strconv"
	"testing"

	"chancel/api"
	"chancel/elab"
	"chancel/prog"
	"chancel/shape"
	"chancel/term"
)

// maker makes terms by chance.
type maker struct {
	*rand.Rand
	shapes []shape.Shape
	names  []string // what is known where the way is, and behind it what was
	stands []shape.Shape
}

func newMaker(seed int64) *maker {
	return &maker{Rand: rand.New(rand.NewSource(seed)), shapes: shapesTo(5)}
}

func (m *maker) any() shape.Shape {
	return m.shapes[min(m.Intn(len(m.shapes)), m.Intn(len(m.shapes)))]
}

// with makes what make does, name being known in it.
func (m *maker) with(name string, s shape.Shape, make func() term.Term) term.Term {
	m.names, m.stands = append(m.names, name), append(m.stands, s)
	t := make()
	last := len(m.names) - 1
	m.names, m.stands = m.names[:last], m.stands[:last]
	return t
}

// known tells a Var that is known to have that shape, if there is one.
func (m *maker) known(s shape.Shape) (term.Term, bool) {
	var all []string
	for i, name := range m.names {
		if shape.Same(m.stands[i], s) && !slices.Contains(m.names[i+1:], name) {
			all = append(all, name)
		}
	}
	if len(all) == 0 {
		return term.Term{}, false
	}
	return v(all[m.Intn(len(all))]), true
}

func (m *maker) name() string { return string(rune('p' + m.Intn(8))) }

// leaf makes a small term that may have that shape.
func (m *maker) leaf(s shape.Shape) term.Term {
	if x, ok := m.known(s); ok && m.Intn(5) > 0 {
		return x
	}
	switch {
	case s.Kind == shape.Int:
		return num(int64(m.Intn(9)))
	case s.Kind == shape.Fun:
		name := m.name()
		return m.with(name, s.Kids[0], func() term.Term { return fun(name, m.leaf(s.Kids[1])) })
	}
	return of(term.Raise, "", num(int64(m.Intn(9))))
}

// make makes a term of about that size that may have that shape.
func (m *maker) make(s shape.Shape, size, depth int) term.Term {
	if size <= 1 || depth <= 8 {
		return m.leaf(s)
	}
	first := 1 + m.Intn(size)
	kid := func(s shape.Shape, size int) term.Term { return m.make(s, size, depth-1) }
	under := func(name string, is, s shape.Shape) term.Term {
		return m.with(name, is, func() term.Term { return kid(s, size-first) })
	}
	name := m.name()
	kinds := []int{term.App, term.App, term.Let, term.Let, term.If, term.Try, term.Seq}
	switch s.Kind {
	case shape.Int:
		kinds = append(kinds, term.While, term.Get, term.Set, term.Op, term.Op)
	case shape.Fun:
		kinds = append(kinds, term.Fun, term.Fun, term.Fun, term.Fun, term.Fun)
	}
	switch kind := kinds[m.Intn(len(kinds))]; kind {
	case term.App:
		is := m.any()
		return app(kid(to(is, s), first), kid(is, size-first))
	case term.Let:
		is := m.any()
		return of(term.Let, name, kid(is, first), under(name, is, s))
	case term.Try:
		return of(term.Try, name, kid(s, first), under(name, in, s))
	case term.If:
		return of(term.If, "", kid(in, first/2), kid(s, first-first/2), kid(s, size-first))
	case term.Seq:
		return seq(kid(m.any(), first), kid(s, size-first))
	case term.While:
		return of(term.While, "", kid(in, first), kid(m.any(), size-first))
	case term.Get:
		return of(term.Get, "", kid(ref, size-1))
	case term.Set:
		return of(term.Set, "", kid(ref, first), kid(in, size-first))
	case term.Op:
		return of(term.Op, operators[m.Intn(5)], kid(in, first), kid(in, size-first))
	}
	return fun(name, m.with(name, s.Kids[0], func() term.Term { return kid(s.Kids[1], size-1) }))
}

// program makes a program that has shapes, of definitions and a body of about that size each.
func (m *maker) program(defs, size int) prog.Prog {
	p := prog.Prog{Inputs: []prog.Decl{{Name: "a", Label: "A"}, {Name: "b", Label: "A"}}, Cells: []prog.Decl{{Name: "c", Label: "A"}, {Name: "d", Label: "A"}}}
	m.names, m.stands = []string{"a", "b", "c", "d"}, []shape.Shape{in, in, ref, ref}
	for i := range defs {
		s := to(m.any(), m.any())
		name := m.name()
		t := fun(name, m.with(name, s.Kids[0], func() term.Term { return m.make(s.Kids[1], size, 100) }))
		p.Defs = append(p.Defs, prog.Def{Name: "f" + strconv.Itoa(i), T: t})
		m.names, m.stands = append(m.names, p.Defs[i].Name), append(m.stands, s)
	}
	p.Body = m.make(in, size, 100)
	return p
}

// places tells where all terms in t are.
func places(t *term.Term) []*term.Term {
	all := []*term.Term{t}
	for i := range t.Kids {
		all = append(all, places(&t.Kids[i])...)
	}
	return all
}

// change puts another term in the place of one in p.
func (m *maker) change(p *prog.Prog) {
	all := places(&p.Body)
	for i := range p.Defs {
		all = append(all, places(&p.Defs[i].T.Kids[0])...)
	}
	x := all[m.Intn(len(all))]
	y := all[m.Intn(len(all))]
	*x = []term.Term{num(0), v("a"), v("c"), fun("p", v("p")), copied(*y)}[m.Intn(5)]
}

// P9.2: programs that are made to have shapes, and such in which something is another thing then, against the model.
func TestChance(t *testing.T) {
	seen := map[api.Errno]int{}
	for seed := range int64(1000) {
		m := newMaker(seed)
		p := m.program(m.Intn(4), 1+m.Intn(50))
		if _, e := elaborates(t, p); e != api.OK {
			t.Fatal(seed, e, prog.Print(p))
		}
		for range 4 {
			m.change(&p)
			_, e := elaborates(t, p)
			seen[e]++
		}
	}
	if seen[api.OK] < 500 || seen[api.ErrShape] < 500 {
		t.Error(seen)
	}
}

// P9.2: great programs that are made to have shapes.
func TestGreatChance(t *testing.T) {
	size := 0
	for seed := range int64(30) {
		p := newMaker(seed).program(int(seed), 2000/int(seed+1))
		size += prog.Size(p)
		if _, e := elaborates(t, p); e != api.OK {
			t.Fatal(seed, e)
		}
	}
	if size < 30*5000 {
		t.Error(size)
	}
}

// P4, P9.2: what is told hangs on no order, and on nothing that was told ahead.
func TestAgain(t *testing.T) {
	for seed := range int64(100) {
		p := newMaker(seed).program(3, 30)
		u, _ := elab.Elab(p)
		want := texts(u)
		scrawl(&u)
		for range 3 {
			if again, _ := elab.Elab(p); texts(again) != want {
				t.Fatal(seed, texts(again), want)
			}
		}
	}
}
