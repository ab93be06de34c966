package elab

import "chancel/shape"

func whole() shape.Shape { return shape.Shape{Kind: shape.Int} }

func cell() shape.Shape { return shape.Shape{Kind: shape.Ref} }

func fun(a, b shape.Shape) shape.Shape {
	return shape.Shape{Kind: shape.Fun, Kids: []shape.Shape{a, b}}
}

func (s *solver) number(t Tree) {
	s.ask(whole(), t.S)
}

func (s *solver) variable(t Tree) {
	s.ask(s.names[t.Name], t.S)
}

func (s *solver) function(t Tree) {
	s.ask(fun(t.B, t.Kids[0].S), t.S)
}

func (s *solver) call(t Tree) {
	s.ask(fun(t.Kids[1].S, t.S), t.Kids[0].S)
}

func (s *solver) let(t Tree) {
	s.ask(t.B, t.Kids[0].S)
	s.ask(t.S, t.Kids[1].S)
}

func (s *solver) choice(t Tree) {
	s.ask(whole(), t.Kids[0].S)
	s.ask(t.S, t.Kids[1].S, t.Kids[2].S)
}

func (s *solver) loop(t Tree) {
	s.ask(whole(), t.S, t.Kids[0].S)
}

func (s *solver) raise(t Tree) {
	s.ask(whole(), t.Kids[0].S)
}

func (s *solver) try(t Tree) {
	s.ask(whole(), t.B)
	s.ask(t.S, t.Kids[0].S, t.Kids[1].S)
}

func (s *solver) get(t Tree) {
	s.ask(whole(), t.S)
	s.ask(cell(), t.Kids[0].S)
}

func (s *solver) set(t Tree) {
	s.ask(whole(), t.S, t.Kids[1].S)
	s.ask(cell(), t.Kids[0].S)
}

func (s *solver) operation(t Tree) {
	s.ask(whole(), t.S, t.Kids[0].S, t.Kids[1].S)
}

func (s *solver) sequence(t Tree) {
	s.ask(t.S, t.Kids[1].S)
}
