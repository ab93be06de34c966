package parse

import (
	"slices"

	"chancel/api"
	"chancel/lex"
	"chancel/term"
)

// step is one thing to do: to plan by which steps a part of the grammar is read, to read a token, or to make a term of those that were read.
type step func(r *reader)

// reader reads tokens by a plan that it holds, not by calls in calls: there may be more tokens in each other than the stack of calls has room for.
type reader struct {
	toks  []lex.Tok
	place int         // how many of toks are read
	plan  []step      // what is still to be done, the next at the end
	names []string    // what terms that are still to be made have as Name
	terms []term.Term // what terms that are still to be made have as Kids
	made  int         // how many terms were made; one beyond the limit stands for all beyond it
}

// run does what is planned, till nothing is left, or a step panics. What is left then may be run too.
func (r *reader) run() (err error) {
	defer func() {
		if by, ok := recover().(error); ok {
			err = stop{place: r.place, by: by}
		}
	}()
	for len(r.plan) > 0 {
		last := len(r.plan) - 1
		next := r.plan[last]
		r.plan = r.plan[:last]
		next(r)
	}
	return nil
}

// then plans the steps, in order, ahead of all that is planned.
func (r *reader) then(steps ...step) {
	for _, s := range slices.Backward(steps) {
		r.plan = append(r.plan, s)
	}
}

// ahead tells the token that stands next; behind the last one stands a token of no kind.
func (r *reader) ahead() lex.Tok {
	if r.place == len(r.toks) {
		return lex.Tok{}
	}
	return r.toks[r.place]
}

// take reads the token that stands next, which has to be of that kind.
func (r *reader) take(kind int) lex.Tok {
	t := r.ahead()
	if t.Kind != kind {
		panic(fault(api.ErrParse))
	}
	r.place++
	return t
}

// keep makes t of the last of the terms that are kept, so many as are its Kids, and keeps it in their stead. Beyond the limit no term is kept, so that what is held is no more than a right term.
func (r *reader) keep(t term.Term, kids int) {
	if r.made > api.MaxNodes {
		return
	}
	r.made++
	if r.made > api.MaxNodes {
		panic(fault(api.ErrLimit))
	}
	first := len(r.terms) - kids
	t.Kids = append([]term.Term(nil), r.terms[first:]...)
	r.terms = append(r.terms[:first], t)
}
