package elab_test

import (
	"slices"
	"testing"

	"chancel/api"
	"chancel/elab"
	"chancel/prog"
	"chancel/shape"
	"chancel/term"
)

// copied is t in memory of its own, which has room behind the Kids.
func copied(t term.Term) term.Term {
	kids := make([]term.Term, 0, len(t.Kids)+1)
	for _, k := range t.Kids {
		kids = append(kids, copied(k))
	}
	kids = append(kids, v("spare"))
	t.Kids = kids[:len(kids)-1]
	return t
}

// spared asks whether what stands behind all Kids is as copied left it.
func spared(t term.Term) bool {
	behind := t.Kids[:len(t.Kids)+1]
	return term.Same(behind[len(t.Kids)], v("spare")) && !slices.ContainsFunc(t.Kids, func(k term.Term) bool { return !spared(k) })
}

// scrawl writes over all that stands in u, and behind it.
func scrawl(u *elab.Typed) {
	_ = append(u.Defs, elab.Def{Name: "more"})
	for i := range u.Defs {
		u.Defs[i].Name = "seen"
		scrawlTree(&u.Defs[i].T)
	}
	scrawlTree(&u.Body)
}

func scrawlTree(x *elab.Tree) {
	for i := range x.Kids {
		scrawlTree(&x.Kids[i])
	}
	scrawlShape(&x.S)
	scrawlShape(&x.B)
	_ = append(x.Kids, elab.Tree{Kind: 99})
	x.Kind, x.Name, x.N = 99, "seen", 99
}

func scrawlShape(s *shape.Shape) {
	for i := range s.Kids {
		scrawlShape(&s.Kids[i])
	}
	_ = append(s.Kids, shape.Shape{Kind: 99})
	s.Kind, s.N = 99, 99
}

// scratch writes over all that stands in t, and behind it.
func scratch(t *term.Term) {
	for i := range t.Kids {
		scratch(&t.Kids[i])
	}
	_ = append(t.Kids, v("more"))
	t.Kind, t.Name, t.N = 99, "seen", 99
}

// P3: what is handed in stays as it is, and so does what stands behind it; what is told is memory of its own.
func TestElabMemory(t *testing.T) {
	for seed := range int64(100) {
		given := func() prog.Prog {
			p := newMaker(seed).program(3, 20)
			p.Inputs = append(p.Inputs, prog.Decl{Name: "spare"})[:2]
			p.Cells = append(p.Cells, prog.Decl{Name: "spare"})[:2]
			p.Defs = append(p.Defs, prog.Def{Name: "spare"})[:3]
			for i := range p.Defs {
				p.Defs[i].T = copied(p.Defs[i].T)
			}
			p.Body = copied(p.Body)
			return p
		}
		kept := func(p prog.Prog) bool {
			ok := prog.Same(p, given()) && spared(p.Body) && p.Inputs[:3][2].Name == "spare" && p.Cells[:3][2].Name == "spare" && p.Defs[:4][3].Name == "spare"
			return ok && !slices.ContainsFunc(p.Defs, func(d prog.Def) bool { return !spared(d.T) })
		}
		p := given()
		u, e := elab.Elab(p)
		if e != api.OK || !kept(p) {
			t.Fatal("what was handed in is another", e)
		}
		scrawl(&u)
		if !kept(p) {
			t.Fatal("the answer shares memory with what was handed in")
		}
	}
}

// owned has all places of the lists of an answer, and whether each was met once.
type owned struct {
	shapes map[*shape.Shape]bool
	trees  map[*elab.Tree]bool
	once   bool
}

// list goes through the list of Kids of a shape, and writes behind it.
func (o *owned) list(l []shape.Shape) {
	_ = append(l, shape.Shape{Kind: 99})
	for i := range l {
		o.once = o.once && !o.shapes[&l[i]]
		o.shapes[&l[i]] = true
		o.list(l[i].Kids)
	}
}

// row goes through a list of trees, and writes behind it.
func (o *owned) row(l []elab.Tree) {
	_ = append(l, elab.Tree{Kind: 99})
	for i := range l {
		o.once = o.once && !o.trees[&l[i]]
		o.trees[&l[i]] = true
		o.list(l[i].S.Kids)
		o.list(l[i].B.Kids)
		o.row(l[i].Kids)
	}
}

// P3: no two lists of an answer share memory.
func TestListsAreTheirOwn(t *testing.T) {
	for seed := range int64(100) {
		p := newMaker(seed).program(2, 15)
		u, e := elab.Elab(p)
		if e != api.OK {
			t.Fatal(seed, e)
		}
		want := texts(u)
		o := owned{map[*shape.Shape]bool{}, map[*elab.Tree]bool{}, true}
		for _, d := range u.Defs {
			o.row([]elab.Tree{d.T})
		}
		o.row([]elab.Tree{u.Body})
		if !o.once || len(o.trees) != prog.Size(p) || texts(u) != want {
			t.Fatal(seed, prog.Print(p))
		}
	}
}

// P3: Bare and Same leave the tree as it is, and the term is memory of its own.
func TestBareMemory(t *testing.T) {
	for seed := range int64(100) {
		u, _ := elab.Elab(newMaker(seed).program(1, 20))
		again, _ := elab.Elab(newMaker(seed).program(1, 20))
		x := elab.Bare(u.Body)
		if !elab.Same(u.Body, again.Body) || !modelSames(u, again) {
			t.Fatal(seed)
		}
		scratch(&x)
		if !modelSames(u, again) {
			t.Fatal(seed, "the answer shares memory with what was handed in")
		}
		if y := elab.Bare(u.Body); !sameTerm(again.Body, y) {
			t.Fatal(seed, "what was told ahead counts")
		}
	}
}
