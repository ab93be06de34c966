package ltype

import (
	"iter"
	"slices"

	"chancel/atom"
	"chancel/shape"
)

// each goes through t and all in it: a type ahead of its Kids, and these in order. It keeps a list of the rows that are left, as a type may be deeper than calls can go.
func each(t *Type) iter.Seq[*Type] {
	return func(yield func(*Type) bool) {
		if !yield(t) {
			return
		}
		left := [][]Type{t.Kids}
		for len(left) > 0 {
			row := left[len(left)-1]
			if len(row) == 0 {
				left = left[:len(left)-1]
				continue
			}
			left[len(left)-1] = row[1:]
			if !yield(&row[0]) {
				return
			}
			left = append(left, row[0].Kids)
		}
	}
}

// places goes through the places of labels in t, in order, whether or not t is right.
func places(t *Type) iter.Seq[*atom.Atom] {
	return func(yield func(*atom.Atom) bool) {
		for x := range each(t) {
			if !yield(&x.L) {
				return
			}
			switch x.Kind {
			case shape.Ref:
				if !yield(&x.C) {
					return
				}
			case shape.Fun:
				if !yield(&x.PC) || !yield(&x.X) {
					return
				}
			}
		}
	}
}

// lay writes labels into the first places of t.
func lay(t *Type, labels ...atom.Atom) {
	for place := range places(t) {
		if len(labels) == 0 {
			return
		}
		*place = labels[0]
		labels = labels[1:]
	}
}

// copied tells t in memory of its own.
func copied(t Type) Type {
	for x := range each(&t) {
		x.Kids = slices.Clone(x.Kids)
	}
	return t
}

// bare tells the type of s without labels; s has no Holes.
func bare(s shape.Shape) Type {
	var told Type
	mirror(&s, &told, func(from *shape.Shape, to *Type) ([]shape.Shape, []Type) {
		to.Kind = from.Kind
		to.Kids = make([]Type, len(from.Kids))
		return from.Kids, to.Kids
	})
	return told
}

// shapeOf tells the shape of t, which is right.
func shapeOf(t Type) shape.Shape {
	var told shape.Shape
	mirror(&t, &told, func(from *Type, to *shape.Shape) ([]Type, []shape.Shape) {
		to.Kind = from.Kind
		to.Kids = make([]shape.Shape, len(from.Kids))
		return from.Kids, to.Kids
	})
	return told
}

// mirror hands a with b to one, then each Kid of a with the one of b at its place, and so on; one tells the Kids of both.
func mirror[A, B any](a *A, b *B, one func(a *A, b *B) ([]A, []B)) {
	type step struct {
		a *A
		b *B
	}
	left := []step{{a, b}}
	for len(left) > 0 {
		next := left[len(left)-1]
		left = left[:len(left)-1]
		as, bs := one(next.a, next.b)
		for i := range as {
			left = append(left, step{&as[i], &bs[i]})
		}
	}
}
