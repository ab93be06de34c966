package shape_test

import (
	"math"
	"slices"
	"strconv"

	"chancel/shape"
)

// The model: the chapter's words, one by one, to hold the package against.

func modelRight(s shape.Shape) bool {
	if s.Kind != shape.Hole && s.N != 0 || s.N < 0 {
		return false
	}
	switch s.Kind {
	case shape.Int, shape.Ref, shape.Hole:
		return len(s.Kids) == 0
	case shape.Fun:
		return len(s.Kids) == 2 && modelRight(s.Kids[0]) && modelRight(s.Kids[1])
	}
	return false
}

func modelSame(a, b shape.Shape) bool {
	return a.Kind == b.Kind && a.N == b.N && slices.EqualFunc(a.Kids, b.Kids, modelSame)
}

func modelSize(s shape.Shape) int {
	size := 1
	for _, k := range s.Kids {
		size += modelSize(k)
	}
	return size
}

func modelHoles(s shape.Shape) []int {
	var all []int
	if s.Kind == shape.Hole {
		all = append(all, s.N)
	}
	for _, k := range s.Kids {
		all = append(all, modelHoles(k)...)
	}
	slices.Sort(all)
	return slices.Compact(all)
}

func modelApply(l []shape.Bind, s shape.Shape) shape.Shape {
	if s.Kind == shape.Hole {
		for _, b := range l {
			if b.N == s.N {
				return b.S
			}
		}
		return s
	}
	told := shape.Shape{Kind: s.Kind, N: s.N}
	for _, k := range s.Kids {
		told.Kids = append(told.Kids, modelApply(l, k))
	}
	return told
}

func modelGround(s shape.Shape) shape.Shape {
	if s.Kind == shape.Hole {
		return in
	}
	told := shape.Shape{Kind: s.Kind, N: s.N}
	for _, k := range s.Kids {
		told.Kids = append(told.Kids, modelGround(k))
	}
	return told
}

func modelText(s shape.Shape) string {
	if !modelRight(s) {
		return "?"
	}
	switch s.Kind {
	case shape.Int:
		return "int"
	case shape.Ref:
		return "ref"
	case shape.Hole:
		return "'" + strconv.Itoa(s.N)
	}
	return "(" + modelText(s.Kids[0]) + " -> " + modelText(s.Kids[1]) + ")"
}

func modelInOrder(l []shape.Bind) bool {
	for i, b := range l {
		if b.N < 0 || i > 0 && l[i-1].N >= b.N || !modelRight(b.S) || modelSize(b.S) > 100 {
			return false
		}
		for _, c := range l {
			if slices.Contains(modelHoles(c.S), b.N) {
				return false
			}
		}
	}
	return true
}

// modelNs tells the Ns of l.
func modelNs(l []shape.Bind) []int {
	var ns []int
	for _, b := range l {
		ns = append(ns, b.N)
	}
	return ns
}

// modelAnswers asks whether m is such as P8.3 has it of l, a, b, whether or not it is the most general.
func modelAnswers(m, l []shape.Bind, a, b shape.Shape) bool {
	if !modelInOrder(m) || !modelSame(modelApply(m, a), modelApply(m, b)) {
		return false
	}
	for _, bind := range l {
		if !slices.Contains(modelNs(m), bind.N) || !modelSame(modelApply(m, hole(bind.N)), modelApply(m, bind.S)) {
			return false
		}
	}
	return true
}

// modelUnify tells what Unify has to, by putting in one Hole after the other, of two Holes the lesser for the greater.
func modelUnify(l []shape.Bind, a, b shape.Shape) ([]shape.Bind, bool) {
	if !modelInOrder(l) || !modelRight(a) || !modelRight(b) {
		return nil, false
	}
	told := slices.Clone(l)
	asked := [][2]shape.Shape{{modelApply(l, a), modelApply(l, b)}}
	for len(asked) > 0 {
		a, b := asked[0][0], asked[0][1]
		asked = asked[1:]
		if b.Kind == shape.Hole && (a.Kind != shape.Hole || a.N < b.N) {
			a, b = b, a
		}
		switch {
		case modelSame(a, b):
		case a.Kind == shape.Hole:
			if slices.Contains(modelHoles(b), a.N) {
				return nil, false
			}
			one := []shape.Bind{{N: a.N, S: b}}
			for i := range told {
				told[i].S = modelApply(one, told[i].S)
			}
			for i := range asked {
				asked[i] = [2]shape.Shape{modelApply(one, asked[i][0]), modelApply(one, asked[i][1])}
			}
			told = append(told, one...)
		case a.Kind != b.Kind:
			return nil, false
		default:
			asked = append(asked, [2]shape.Shape{a.Kids[0], b.Kids[0]}, [2]shape.Shape{a.Kids[1], b.Kids[1]})
		}
	}
	slices.SortFunc(told, func(x, y shape.Bind) int { return x.N - y.N })
	for _, b := range told {
		if modelSize(b.S) > 100 {
			return nil, false
		}
	}
	return told, true
}

var (
	in  = shape.Shape{Kind: shape.Int}
	ref = shape.Shape{Kind: shape.Ref}
)

func hole(n int) shape.Shape { return shape.Shape{Kind: shape.Hole, N: n} }

func fun(a, b shape.Shape) shape.Shape { return of(shape.Fun, 0, a, b) }

func of(kind, n int, kids ...shape.Shape) shape.Shape {
	return shape.Shape{Kind: kind, N: n, Kids: kids}
}

// allOf tells all shapes of that size made of the heads, whatever Kids these have.
func allOf(size int, heads []shape.Shape) []shape.Shape {
	var all []shape.Shape
	for _, kids := range rows(size-1, heads) {
		for _, h := range heads {
			h.Kids = kids
			all = append(all, h)
		}
	}
	return all
}

// rows tells all rows of shapes that have that size together.
func rows(size int, heads []shape.Shape) [][]shape.Shape {
	if size == 0 {
		return [][]shape.Shape{nil}
	}
	var all [][]shape.Shape
	for first := 1; first <= size; first++ {
		rest := rows(size-first, heads)
		for _, s := range allOf(first, heads) {
			for _, r := range rest {
				all = append(all, append([]shape.Shape{s}, r...))
			}
		}
	}
	return all
}

// any of these heads may have any Kids: most of what is made of them is not right.
func wrongHeads() []shape.Shape {
	return []shape.Shape{{}, {Kind: 1}, {Kind: 1, N: 1}, {Kind: 2}, {Kind: 2, N: -1}, {Kind: 3}, {Kind: 3, N: 1}, {Kind: 4}, {Kind: 4, N: 2}, {Kind: 4, N: -1}, {Kind: 4, N: math.MaxInt}, {Kind: 5}, {Kind: -1, N: math.MinInt}}
}

// wrong tells shapes that are right and shapes that are not, the small ones all.
func wrong() []shape.Shape {
	var all []shape.Shape
	for size := 1; size <= 3; size++ {
		all = append(all, allOf(size, wrongHeads())...)
	}
	few := []shape.Shape{in, {Kind: 3}, {Kind: 4, N: 2}, {Kind: 6}}
	for size := 4; size <= 5; size++ {
		all = append(all, allOf(size, few)...)
	}
	return all
}

// leaves tells the shapes that have no Kids: Int, Ref, and the Holes of those numbers.
func leaves(ns ...int) []shape.Shape {
	all := []shape.Shape{in, ref}
	for _, n := range ns {
		all = append(all, hole(n))
	}
	return all
}

// rightOf tells all right shapes of that size that have those leaves.
func rightOf(size int, leaves []shape.Shape) []shape.Shape {
	if size == 1 {
		return leaves
	}
	var all []shape.Shape
	for first := 1; first < size-1; first += 2 {
		for _, a := range rightOf(first, leaves) {
			for _, b := range rightOf(size-1-first, leaves) {
				all = append(all, fun(a, b))
			}
		}
	}
	return all
}

// rightTo tells all right shapes of at most that size that have those leaves.
func rightTo(size int, leaves []shape.Shape) []shape.Shape {
	var all []shape.Shape
	for n := 1; n <= size; n += 2 {
		all = append(all, rightOf(n, leaves)...)
	}
	return all
}

// ordered tells all substitutions in order that have Binds of some of those numbers, of shapes of at most that size with Holes of the others, and of free.
func ordered(size int, ns []int, free ...int) [][]shape.Bind {
	var all [][]shape.Bind
	for some := range 1 << len(ns) {
		open := slices.Clone(free)
		for i, n := range ns {
			if some>>i&1 == 0 {
				open = append(open, n)
			}
		}
		shapes := rightTo(size, leaves(open...))
		part := [][]shape.Bind{nil}
		for i, n := range ns {
			if some>>i&1 == 0 {
				continue
			}
			var longer [][]shape.Bind
			for _, l := range part {
				for _, s := range shapes {
					longer = append(longer, append(slices.Clone(l), shape.Bind{N: n, S: s}))
				}
			}
			part = longer
		}
		all = append(all, part...)
	}
	return all
}

// spine is a shape in which so many Funs stand one in another, each as Kid i of the one above it, the other Kid being side, and low the lowest. It stands in one piece of memory.
func spine(depth, i int, side, low shape.Shape) shape.Shape {
	all := make([]shape.Shape, 2*depth+1)
	place := 0
	for d := range depth {
		kids := all[2*d+1 : 2*d+3 : 2*d+3]
		kids[0], kids[1] = side, side
		all[place] = shape.Shape{Kind: shape.Fun, Kids: kids}
		place = 2*d + 1 + i
	}
	all[place] = low
	return all[0]
}

// texts is l as it is read.
func texts(l []shape.Bind) string {
	s := ""
	for _, b := range l {
		s += strconv.Itoa(b.N) + "=" + modelText(b.S) + " "
	}
	return s
}
