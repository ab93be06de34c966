package ltype_test

import (
	"math"
	"slices"
	"strconv"

	"chancel/atom"
	"chancel/ltype"
	"chancel/shape"
)

// The model: the chapter's words, one by one, to hold the package against.

func modelRight(t ltype.Type) bool {
	switch t.Kind {
	case 1:
		return t.C == 0 && t.PC == 0 && t.X == 0 && len(t.Kids) == 0
	case 2:
		return t.PC == 0 && t.X == 0 && len(t.Kids) == 0
	case 3:
		return t.C == 0 && len(t.Kids) == 2 && modelRight(t.Kids[0]) && modelRight(t.Kids[1])
	}
	return false
}

func modelSame(a, b ltype.Type) bool {
	return a.Kind == b.Kind && a.L == b.L && a.C == b.C && a.PC == b.PC && a.X == b.X && slices.EqualFunc(a.Kids, b.Kids, modelSame)
}

func modelFresh(s shape.Shape, next int) (ltype.Type, int) {
	if next < 0 || !shape.Right(s) {
		return ltype.Type{}, next
	}
	label := func() atom.Atom {
		next++
		return atom.Atom(next - 1)
	}
	var fresh func(s shape.Shape) ltype.Type
	fresh = func(s shape.Shape) ltype.Type {
		switch s.Kind {
		case shape.Ref:
			l := label()
			c := label()
			return ltype.Type{Kind: 2, L: l, C: c}
		case shape.Fun:
			l := label()
			pc := label()
			x := label()
			a := fresh(s.Kids[0])
			b := fresh(s.Kids[1])
			return ltype.Type{Kind: 3, L: l, PC: pc, X: x, Kids: []ltype.Type{a, b}}
		}
		return ltype.Type{Kind: 1, L: label()}
	}
	t := fresh(s)
	return t, next
}

func modelShape(t ltype.Type) shape.Shape {
	if !modelRight(t) {
		return shape.Shape{}
	}
	s := shape.Shape{Kind: t.Kind}
	for _, k := range t.Kids {
		s.Kids = append(s.Kids, modelShape(k))
	}
	return s
}

func modelPlaces(t ltype.Type) []atom.Atom {
	if !modelRight(t) {
		return nil
	}
	switch t.Kind {
	case 1:
		return []atom.Atom{t.L}
	case 2:
		return []atom.Atom{t.L, t.C}
	}
	return append(append([]atom.Atom{t.L, t.PC, t.X}, modelPlaces(t.Kids[0])...), modelPlaces(t.Kids[1])...)
}

func modelSub(a, b ltype.Type) ([]atom.Pair, bool) {
	if !modelRight(a) || !modelRight(b) || a.Kind != b.Kind {
		return nil, false
	}
	switch a.Kind {
	case 1:
		return []atom.Pair{{A: a.L, B: b.L}}, true
	case 2:
		return []atom.Pair{{A: a.L, B: b.L}, {A: a.C, B: b.C}, {A: b.C, B: a.C}}, true
	}
	given, ok := modelSub(b.Kids[0], a.Kids[0])
	answered, also := modelSub(a.Kids[1], b.Kids[1])
	if !ok || !also {
		return nil, false
	}
	return slices.Concat([]atom.Pair{{A: a.L, B: b.L}, {A: b.PC, B: a.PC}, {A: a.X, B: b.X}}, given, answered), true
}

func modelRename(t ltype.Type, from, to []atom.Atom) ltype.Type {
	one := func(a *atom.Atom) {
		if i := slices.Index(from, *a); i >= 0 && i < len(to) {
			*a = to[i]
		}
	}
	one(&t.L)
	if t.Kind == 2 {
		one(&t.C)
	}
	if t.Kind == 3 {
		one(&t.PC)
		one(&t.X)
	}
	t.Kids = slices.Clone(t.Kids)
	for i, k := range t.Kids {
		t.Kids[i] = modelRename(k, from, to)
	}
	return t
}

func modelLabel(names []string, a atom.Atom) string {
	if a >= 0 {
		return "'" + strconv.Itoa(int(a))
	}
	for p, n := range names {
		if int(a) == -1-p {
			return n
		}
	}
	return "?"
}

func modelText(names []string, t ltype.Type) string {
	if !modelRight(t) {
		return "?"
	}
	l := "@" + modelLabel(names, t.L)
	switch t.Kind {
	case 1:
		return "int" + l
	case 2:
		return "ref" + l + "[" + modelLabel(names, t.C) + "]"
	}
	return "(" + modelText(names, t.Kids[0]) + " -" + modelLabel(names, t.PC) + "," + modelLabel(names, t.X) + "-> " + modelText(names, t.Kids[1]) + ")" + l
}

var (
	in  = shape.Shape{Kind: shape.Int}
	ref = shape.Shape{Kind: shape.Ref}
)

func hole(n int) shape.Shape { return shape.Shape{Kind: shape.Hole, N: n} }

func fun(a, b shape.Shape) shape.Shape {
	return shape.Shape{Kind: shape.Fun, Kids: []shape.Shape{a, b}}
}

func number(l atom.Atom) ltype.Type { return ltype.Type{Kind: 1, L: l} }

func cell(l, c atom.Atom) ltype.Type { return ltype.Type{Kind: 2, L: l, C: c} }

func arrow(l, pc, x atom.Atom, kids ...ltype.Type) ltype.Type {
	return ltype.Type{Kind: 3, L: l, PC: pc, X: x, Kids: kids}
}

// with tells t with those Kids.
func with(t ltype.Type, kids ...ltype.Type) ltype.Type {
	t.Kids = kids
	return t
}

// fresh tells Fresh of s from next on alone.
func fresh(s shape.Shape, next int) ltype.Type {
	t, _ := ltype.Fresh(s, next)
	return t
}

// shapesOf tells all right shapes of that size that have those leaves.
func shapesOf(size int, leaves ...shape.Shape) []shape.Shape {
	if size == 1 {
		return leaves
	}
	var all []shape.Shape
	for first := 1; first < size-1; first += 2 {
		for _, a := range shapesOf(first, leaves...) {
			for _, b := range shapesOf(size-1-first, leaves...) {
				all = append(all, fun(a, b))
			}
		}
	}
	return all
}

// shapesTo tells all right shapes of at most that size that have those leaves.
func shapesTo(size int, leaves ...shape.Shape) []shape.Shape {
	var all []shape.Shape
	for n := 1; n <= size; n += 2 {
		all = append(all, shapesOf(n, leaves...)...)
	}
	return all
}

// allOf tells all types of that size made of the heads, whatever Kids these have.
func allOf(size int, heads []ltype.Type) []ltype.Type {
	var all []ltype.Type
	for _, kids := range rowsOf(size-1, heads) {
		for _, h := range heads {
			all = append(all, with(h, kids...))
		}
	}
	return all
}

// rowsOf tells all rows of types that have that size together.
func rowsOf(size int, heads []ltype.Type) [][]ltype.Type {
	if size == 0 {
		return [][]ltype.Type{nil}
	}
	var all [][]ltype.Type
	for first := 1; first <= size; first++ {
		rest := rowsOf(size-first, heads)
		for _, t := range allOf(first, heads) {
			for _, r := range rest {
				all = append(all, append([]ltype.Type{t}, r...))
			}
		}
	}
	return all
}

// anyHeads may have any Kids: most of what is made of them is not right.
func anyHeads() []ltype.Type {
	return []ltype.Type{
		{}, {L: 3}, {Kind: 1}, {Kind: 1, L: -1}, {Kind: 1, C: 1}, {Kind: 1, PC: -1}, {Kind: 1, X: 2},
		{Kind: 2}, {Kind: 2, L: 4, C: -2}, {Kind: 2, PC: 1}, {Kind: 2, X: -1}, {Kind: 3}, {Kind: 3, L: 1, PC: 2, X: -1}, {Kind: 3, C: -1},
		{Kind: 4, L: 1, C: 2, PC: 3, X: 4}, {Kind: -1, X: math.MinInt}, {Kind: math.MaxInt},
	}
}

// someTypes tells types that are right and types that are not, the small ones all.
func someTypes() []ltype.Type {
	var all []ltype.Type
	for size := 1; size <= 3; size++ {
		all = append(all, allOf(size, anyHeads())...)
	}
	few := []ltype.Type{{Kind: 1, L: 1}, {Kind: 3, L: 2, PC: 1, X: 3}, {Kind: 2, L: 1, C: 4}}
	for size := 4; size <= 5; size++ {
		all = append(all, allOf(size, few)...)
	}
	return all
}

// spine is a type in which so many Funs stand one in another, each as Kid i of the one above it, the other Kid being side, and low the lowest. It stands in one piece of memory.
func spine(depth, i int, side, low ltype.Type) ltype.Type {
	all := make([]ltype.Type, 2*depth+1)
	place := 0
	for d := range depth {
		kids := all[2*d+1 : 2*d+3 : 2*d+3]
		kids[0], kids[1] = side, side
		all[place] = arrow(1, 2, 3, kids...)
		place = 2*d + 1 + i
	}
	all[place] = low
	return all[0]
}

// shapeSpine is the shape of a spine of those.
func shapeSpine(depth, i int, side, low shape.Shape) shape.Shape {
	all := make([]shape.Shape, 2*depth+1)
	place := 0
	for d := range depth {
		kids := all[2*d+1 : 2*d+3 : 2*d+3]
		kids[0], kids[1] = side, side
		all[place] = shape.Shape{Kind: shape.Fun, Kids: kids}
		place = 2*d + 1 + i
	}
	all[place] = low
	return all[0]
}
