package elab_test

import (
	"slices"
	"strings"
	"testing"

	"chancel/api"
	"chancel/elab"
	"chancel/prog"
	"chancel/scope"
	"chancel/shape"
	"chancel/term"
)

// The model: what the chapter asks of each Kind, in which S and B are the tree's own, a number is a Kid's S, and Name is what the tree's Name stands for.

var (
	asked = map[int]string{
		term.Num:   "S = int",
		term.Var:   "S = Name",
		term.Fun:   "S = B -> 0",
		term.App:   "0 = 1 -> S",
		term.Let:   "B = 0 , S = 1",
		term.If:    "0 = int , 1 = S , 2 = S",
		term.While: "0 = int , S = int",
		term.Raise: "0 = int",
		term.Try:   "0 = S , 1 = S , B = int",
		term.Get:   "0 = ref , S = int",
		term.Set:   "0 = ref , 1 = int , S = int",
		term.Op:    "0 = int , 1 = int , S = int",
		term.Seq:   "S = 1",
	}

	allKinds  = []int{term.Num, term.Var, term.Fun, term.App, term.Let, term.If, term.While, term.Raise, term.Try, term.Get, term.Set, term.Op, term.Seq}
	kidsOf    = map[int]int{term.Fun: 1, term.App: 2, term.Let: 2, term.If: 3, term.While: 2, term.Raise: 1, term.Try: 2, term.Get: 1, term.Set: 2, term.Op: 2, term.Seq: 2}
	operators = []string{"+", "-", "*", "<", "="}
)

func binds(kind int) bool {
	return slices.Contains([]int{term.Fun, term.Let, term.Try}, kind)
}

// sides are the two sides of what is asked, by words.
type sides struct {
	left  string
	right []string
}

// equations has for each Kind what is asked of it.
var equations = func() map[int][]sides {
	all := map[int][]sides{}
	for kind, text := range asked {
		for _, one := range strings.Split(text, " , ") {
			left, right, _ := strings.Cut(one, " = ")
			all[kind] = append(all[kind], sides{left, strings.Split(right, " -> ")})
		}
	}
	return all
}()

// meets asks whether the shapes of x, of what the names stand for around it, and of its Kids are as the chapter asks; it tells names what x binds.
func meets(x elab.Tree, names map[string]shape.Shape) bool {
	if binds(x.Kind) {
		names[x.Name] = x.B
	} else if x.B.Kind != 0 || x.B.N != 0 || len(x.B.Kids) != 0 {
		return false
	}
	for _, k := range x.Kids {
		if !meets(k, names) {
			return false
		}
	}
	return local(x, names) && shape.Right(x.S) && len(shape.Holes(x.S)) == 0 && shape.Size(x.S) <= 100
}

// local asks the same of x alone.
func local(x elab.Tree, names map[string]shape.Shape) bool {
	value := func(word string) shape.Shape {
		switch word {
		case "S":
			return x.S
		case "B":
			return x.B
		case "Name":
			return names[x.Name]
		case "int":
			return in
		case "ref":
			return ref
		}
		return x.Kids[word[0]-'0'].S
	}
	for _, e := range equations[x.Kind] {
		b := value(e.right[0])
		if len(e.right) == 2 {
			b = to(b, value(e.right[1]))
		}
		if !shape.Same(value(e.left), b) {
			return false
		}
	}
	return true
}

// given tells what the names of p's inputs and cells stand for.
func given(p prog.Prog) map[string]shape.Shape {
	names := map[string]shape.Shape{}
	for _, d := range p.Inputs {
		names[d.Name] = in
	}
	for _, d := range p.Cells {
		names[d.Name] = ref
	}
	return names
}

// meetsAll asks whether u are trees of what Resolve tells of p, whose shapes are as the chapter asks.
func meetsAll(p prog.Prog, u elab.Typed) bool {
	q, e := scope.Resolve(p)
	if e != api.OK || len(u.Defs) != len(q.Defs) || !sameTerm(u.Body, q.Body) {
		return false
	}
	names := given(p)
	for i, d := range u.Defs {
		if d.Name != q.Defs[i].Name || !sameTerm(d.T, q.Defs[i].T) || !meets(d.T, names) {
			return false
		}
		names[d.Name] = d.T.S
	}
	return meets(u.Body, names) && shape.Same(u.Body.S, in)
}

// sameTerm asks whether x is a tree of t.
func sameTerm(x elab.Tree, t term.Term) bool {
	return x.Kind == t.Kind && x.Name == t.Name && x.N == t.N && slices.EqualFunc(x.Kids, t.Kids, sameTerm)
}

// knot is a shape that may still become another one: the one to which up leads.
type knot struct {
	kind int
	kids []*knot
	up   *knot
}

func (k *knot) last() *knot {
	for k.up != nil {
		k = k.up
	}
	return k
}

// has asks whether o stands in k.
func (k *knot) has(o *knot) bool {
	k = k.last()
	return k == o || slices.ContainsFunc(k.kids, func(x *knot) bool { return x.has(o) })
}

// tie makes a and b the same, if they can be.
func tie(a, b *knot) bool {
	a, b = a.last(), b.last()
	if b.kind == shape.Hole {
		a, b = b, a
	}
	switch {
	case a == b:
		return true
	case a.kind == shape.Hole:
		if b.has(a) {
			return false
		}
		a.up = b
		return true
	case a.kind != b.kind:
		return false
	}
	for i := range a.kids {
		if !tie(a.kids[i], b.kids[i]) {
			return false
		}
	}
	return true
}

// ground tells k with Int for each Hole, as far as it is not above Most, and its size.
func (k *knot) ground(size *int) shape.Shape {
	k = k.last()
	*size++
	s := shape.Shape{Kind: k.kind}
	if k.kind == shape.Hole {
		s.Kind = shape.Int
	}
	for _, x := range k.kids {
		if *size <= 100 {
			s.Kids = append(s.Kids, x.ground(size))
		}
	}
	return s
}

// model is a program's shapes as far as they are known; of each tree s and b have them, in order, the Kids first.
type model struct {
	names map[string]*knot
	s, b  []*knot
	ok    bool
}

func open() *knot { return &knot{kind: shape.Hole} }

// enter goes through t, and tells its shape.
func (m *model) enter(t term.Term) *knot {
	words := map[string]*knot{"S": open(), "int": {kind: shape.Int}, "ref": {kind: shape.Ref}}
	if binds(t.Kind) {
		words["B"] = open()
		m.names[t.Name] = words["B"]
	} else {
		words["Name"] = m.names[t.Name]
	}
	for i, k := range t.Kids {
		words[string(rune('0'+i))] = m.enter(k)
	}
	for _, e := range equations[t.Kind] {
		b := words[e.right[0]]
		if len(e.right) == 2 {
			b = &knot{kind: shape.Fun, kids: []*knot{b, words[e.right[1]]}}
		}
		m.ok = m.ok && tie(words[e.left], b)
	}
	m.s, m.b = append(m.s, words["S"]), append(m.b, words["B"])
	return words["S"]
}

// tree tells the tree of t, the shapes being the next ones.
func (m *model) tree(t term.Term) elab.Tree {
	x := elab.Tree{Kind: t.Kind, Name: t.Name, N: t.N}
	for _, k := range t.Kids {
		x.Kids = append(x.Kids, m.tree(k))
	}
	size := 0
	x.S = m.s[0].ground(&size)
	m.ok = m.ok && size <= 100
	if m.b[0] != nil {
		size = 0
		x.B = m.b[0].ground(&size)
		m.ok = m.ok && size <= 100
	}
	m.s, m.b = m.s[1:], m.b[1:]
	return x
}

// modelElab tells what Elab has to.
func modelElab(p prog.Prog) (elab.Typed, api.Errno) {
	q, e := scope.Resolve(p)
	if e != api.OK {
		return elab.Typed{}, e
	}
	m := &model{names: map[string]*knot{}, ok: true}
	for name, s := range given(q) {
		m.names[name] = &knot{kind: s.Kind}
	}
	for _, d := range q.Defs {
		m.names[d.Name] = m.enter(d.T)
	}
	body := m.enter(q.Body)
	m.ok = m.ok && tie(body, &knot{kind: shape.Int})
	var told elab.Typed
	if !m.ok {
		return told, api.ErrShape
	}
	for _, d := range q.Defs {
		told.Defs = append(told.Defs, elab.Def{Name: d.Name, T: m.tree(d.T)})
	}
	told.Body = m.tree(q.Body)
	if !m.ok {
		return elab.Typed{}, api.ErrShape
	}
	return told, api.OK
}

// modelSame asks whether a and b have all alike.
func modelSame(a, b elab.Tree) bool {
	return a.Kind == b.Kind && a.Name == b.Name && a.N == b.N && shape.Same(a.S, b.S) && shape.Same(a.B, b.B) && slices.EqualFunc(a.Kids, b.Kids, modelSame)
}

// modelSames asks that of all trees of two programs.
func modelSames(a, b elab.Typed) bool {
	return modelSame(a.Body, b.Body) && slices.EqualFunc(a.Defs, b.Defs, func(x, y elab.Def) bool { return x.Name == y.Name && modelSame(x.T, y.T) })
}

// nothing asks whether u is nothing.
func nothing(u elab.Typed) bool {
	return len(u.Defs) == 0 && modelSame(u.Body, elab.Tree{})
}

// elaborates holds what is told of p against the model, and tells it.
func elaborates(t *testing.T, p prog.Prog) (elab.Typed, api.Errno) {
	t.Helper()
	want, e := modelElab(p)
	got, f := elab.Elab(p)
	if f != e || !modelSames(got, want) || f != api.OK && !nothing(got) {
		t.Fatalf("%s%v: %s, %d, not %s, %d", prog.Print(p), p, texts(got), f, texts(want), e)
	}
	if f == api.OK && !meetsAll(p, got) {
		t.Fatalf("%s: %s is not what is asked", prog.Print(p), texts(got))
	}
	return got, f
}

// texts tells the shapes of all trees, each ahead of its Kids, of a binder with that of what it binds, a line for each of the program's terms.
func texts(u elab.Typed) string {
	lines := ""
	for _, d := range u.Defs {
		lines += d.Name + " = " + text(d.T) + "\n"
	}
	return lines + text(u.Body)
}

func text(x elab.Tree) string {
	s := shape.Text(x.S)
	if binds(x.Kind) {
		s += " : " + shape.Text(x.B)
	}
	for _, k := range x.Kids {
		s += ", " + text(k)
	}
	return s
}

var (
	in  = shape.Shape{Kind: shape.Int}
	ref = shape.Shape{Kind: shape.Ref}
)

func to(a, b shape.Shape) shape.Shape {
	return shape.Shape{Kind: shape.Fun, Kids: []shape.Shape{a, b}}
}

func num(n int64) term.Term { return term.Term{Kind: term.Num, N: n} }

func v(name string) term.Term { return term.Term{Kind: term.Var, Name: name} }

func of(kind int, name string, kids ...term.Term) term.Term {
	return term.Term{Kind: kind, Name: name, Kids: kids}
}

func fun(name string, body term.Term) term.Term { return of(term.Fun, name, body) }

func seq(a, b term.Term) term.Term { return of(term.Seq, "", a, b) }

func app(a, b term.Term) term.Term { return of(term.App, "", a, b) }

// parsed is the program that s is a text of.
func parsed(t *testing.T, s string) prog.Prog {
	t.Helper()
	p, e := prog.Parse(s)
	if e != api.OK {
		t.Fatal(s, e)
	}
	return p
}
