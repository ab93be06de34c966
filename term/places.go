package term

import (
	"iter"

	"chancel/api"
)

// place is where a term stands: as that Kid of a term, at that depth.
type place struct {
	of         *Term
	kid, depth int
}

func (p place) term() *Term {
	return &p.of.Kids[p.kid]
}

// under is the place of the term's Kid i.
func (p place) under(i int) place {
	return place{of: p.term(), kid: i, depth: p.depth + 1}
}

// bound asks whether p is where a binder binds its Name.
func (p place) bound() bool {
	return p.kid == len(p.of.Kids)-1 && Binder(*p.of)
}

// places goes through t and all terms in it, each ahead of its Kids, and these in order. The place of t is that of the one Kid of a term of no Kind.
func places(t Term) iter.Seq[place] {
	return func(yield func(place) bool) {
		var visit func(p place) bool
		visit = func(p place) bool {
			if p.depth > api.MaxDepth {
				return below(p, yield)
			}
			if !yield(p) {
				return false
			}
			for i := range p.term().Kids {
				if !visit(p.under(i)) {
					return false
				}
			}
			return true
		}
		visit(place{of: &Term{Kids: []Term{t}}, depth: 1})
	}
}

// below goes on where no right term reaches to, by a list of the places that are left: a term may be deeper than calls can go, as the stack has an end. It tells whether yield said so to the end.
func below(first place, yield func(place) bool) bool {
	left := []place{first}
	for len(left) > 0 {
		p := left[len(left)-1]
		left = left[:len(left)-1]
		if !yield(p) {
			return false
		}
		if p.depth > first.depth && p.kid+1 < len(p.of.Kids) {
			left = append(left, place{of: p.of, kid: p.kid + 1, depth: p.depth})
		}
		if len(p.term().Kids) > 0 {
			left = append(left, p.under(0))
		}
	}
	return true
}
