package scope

import (
	"slices"
	"strconv"

	"chancel/api"
	"chancel/term"
)

// renamer is what is known on the way through a term: the number of the next binder, and for what each bound name stands where the way is.
type renamer struct {
	next   int
	stands map[string]string
}

// rename writes numbers into t, which stands at that depth, and into all terms in it.
func (r *renamer) rename(t *term.Term, depth int) {
	if depth > api.MaxDepth {
		r.below(t)
		return
	}
	name := t.Name
	r.head(t)
	last := len(t.Kids) - 1
	for i := range last {
		r.rename(&t.Kids[i], depth+1)
	}
	if last < 0 {
		return
	}
	if term.Binder(*t) {
		defer r.put(name, r.stands[name])
		r.put(name, t.Name)
	}
	r.rename(&t.Kids[last], depth+1)
}

// head gives t the name that it is to have, and Kids that are its own, to be written into.
func (r *renamer) head(t *term.Term) {
	t.Kids = slices.Clone(t.Kids)
	if term.Binder(*t) {
		t.Name = strconv.Itoa(r.next)
		r.next++
		return
	}
	if number := r.stands[t.Name]; t.Kind == term.Var && number != "" {
		t.Name = number
	}
}

// put lets name stand for number; for itself, if that is nothing.
func (r *renamer) put(name, number string) {
	if number == "" {
		delete(r.stands, name)
		return
	}
	r.stands[name] = number
}

// level is a term on the way down: which of its Kids is the next, the name that it had, and for what that stands around it.
type level struct {
	of        *term.Term
	kid       int
	name, was string
}

// enter numbers t, but not yet its Kids.
func (r *renamer) enter(t *term.Term) level {
	l := level{of: t, name: t.Name, was: r.stands[t.Name]}
	r.head(t)
	return l
}

// below does what rename does where no right term reaches to, by a list of the levels that are open: a term may be deeper than calls can go, as the stack has an end.
func (r *renamer) below(t *term.Term) {
	open := []level{r.enter(t)}
	for len(open) > 0 {
		l := &open[len(open)-1]
		left := len(l.of.Kids) - l.kid
		if left == 0 {
			r.put(l.name, l.was) // a term that binds nothing leaves its name as it was
			open = open[:len(open)-1]
			continue
		}
		if left == 1 && term.Binder(*l.of) {
			r.put(l.name, l.of.Name)
		}
		l.kid++
		open = append(open, r.enter(&l.of.Kids[l.kid-1]))
	}
}
