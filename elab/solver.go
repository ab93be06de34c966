package elab

import (
	"chancel/prog"
	"chancel/shape"
	"chancel/term"
)

// misfit is why a program has no trees, as an error.
type misfit string

func (m misfit) Error() string {
	return string(m)
}

// solver gathers what is asked of the shapes of a program. Each term, and each binder, begins with a Hole of its own as its shape.
type solver struct {
	found       []shape.Shape          // what is known of the Hole of each number
	names       map[string]shape.Shape // the shape of what each name stands for
	rules       map[int]func(t Tree)   // what asks all that is asked of a tree of each Kind
	left, right shape.Shape            // all pairs that have to be the same, a row of one side and of the other
}

// typed tells the trees of p, whose names are unlike, or why there are none.
func typed(p prog.Prog) (told Typed, err error) {
	defer func() {
		if by := recover(); by != nil {
			told, err = Typed{}, caught(by)
		}
	}()
	s := newSolver(p)
	for _, d := range p.Defs {
		t := s.tree(d.T)
		s.names[d.Name] = t.S
		told.Defs = append(told.Defs, Def{Name: d.Name, T: t})
	}
	told.Body = s.tree(p.Body)
	s.ask(whole(), told.Body.S)
	s.settle()
	for i := range told.Defs {
		s.fill(&told.Defs[i].T)
	}
	s.fill(&told.Body)
	return told, nil
}

// caught tells the error of what was recovered. A panic of the language's own leaves a program without trees too, as no call lets it through.
func caught(by any) error {
	if m, ok := by.(misfit); ok {
		return m
	}
	return misfit("the solver failed")
}

// newSolver is a solver that knows what p is given and keeps.
func newSolver(p prog.Prog) *solver {
	s := &solver{names: map[string]shape.Shape{}, left: whole(), right: whole()}
	for _, d := range p.Inputs {
		s.names[d.Name] = whole()
	}
	for _, d := range p.Cells {
		s.names[d.Name] = cell()
	}
	s.rules = map[int]func(t Tree){
		term.Num:   s.number,
		term.Var:   s.variable,
		term.Fun:   s.function,
		term.App:   s.call,
		term.Let:   s.let,
		term.If:    s.choice,
		term.While: s.loop,
		term.Raise: s.raise,
		term.Try:   s.try,
		term.Get:   s.get,
		term.Set:   s.set,
		term.Op:    s.operation,
		term.Seq:   s.sequence,
	}
	return s
}

// tree tells the tree of t, its shapes being Holes, and asks of these what t does.
func (s *solver) tree(t term.Term) Tree {
	told := Tree{Kind: t.Kind, Name: t.Name, N: t.N, S: s.hole()}
	if term.Binder(t) {
		told.B = s.hole()
		s.names[t.Name] = told.B
	}
	for _, k := range t.Kids {
		told.Kids = append(told.Kids, s.tree(k))
	}
	s.rules[t.Kind](told)
	return told
}

// hole is a Hole that is nothing else's.
func (s *solver) hole() shape.Shape {
	h := shape.Shape{Kind: shape.Hole, N: len(s.found)}
	s.found = append(s.found, h)
	return h
}

// ask asks that all of l are as a is. The answer waits for settle: Unify goes through all that was found ahead, each time that it is called.
func (s *solver) ask(a shape.Shape, l ...shape.Shape) {
	for _, b := range l {
		s.left, s.right = fun(a, s.left), fun(b, s.right)
	}
}

// settle finds the most general shapes of which all that was asked holds, each of them small enough; it panics, if there are none.
func (s *solver) settle() {
	l, ok := shape.Unify(nil, s.left, s.right)
	if !ok {
		panic(misfit("its shapes do not fit"))
	}
	for _, b := range l {
		s.found[b.N] = b.S
	}
}

// fill puts what was found in the place of the Holes of t, and of all trees in it.
func (s *solver) fill(t *Tree) {
	t.S = shape.Ground(s.found[t.S.N])
	if t.B.Kind == shape.Hole {
		t.B = shape.Ground(s.found[t.B.N])
	}
	for i := range t.Kids {
		s.fill(&t.Kids[i])
	}
}
