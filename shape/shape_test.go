package shape_test

import (
	"fmt"
	"math"
	"reflect"
	"slices"
	"strings"
	"testing"

	"chancel/shape"
)

// holds holds what is told of s alone against the model.
func holds(t *testing.T, s shape.Shape) {
	t.Helper()
	if got, want := shape.Right(s), modelRight(s); got != want {
		t.Fatal(s, "Right", got)
	}
	if got, want := shape.Size(s), modelSize(s); got != want {
		t.Fatal(s, "Size", got, want)
	}
	if got, want := shape.Holes(s), modelHoles(s); !slices.Equal(got, want) {
		t.Fatal(s, "Holes", got, want)
	}
	if got, want := shape.Ground(s), modelGround(s); !modelSame(got, want) {
		t.Fatal(s, "Ground", got, want)
	}
	if got, want := shape.Text(s), modelText(s); got != want {
		t.Fatal(s, "Text", got, want)
	}
}

// P8.1, P8.4: all small shapes, most of them not right, against the model.
func TestAllShapes(t *testing.T) {
	right := 0
	for _, s := range append(wrong(), rightTo(7, leaves(0, 3))...) {
		holds(t, s)
		if shape.Right(s) {
			right++
		}
	}
	if right < 1000 {
		t.Error(right)
	}
}

// The chapter's constants.
func TestConstants(t *testing.T) {
	if got := []int{shape.Int, shape.Ref, shape.Fun, shape.Hole, shape.Most}; !slices.Equal(got, []int{1, 2, 3, 4, 100}) {
		t.Error(got)
	}
}

// P8.1: what is right, and the ways in which it is not.
func TestRight(t *testing.T) {
	for i, c := range []struct {
		s    shape.Shape
		want bool
	}{
		{in, true}, {ref, true}, {hole(0), true}, {hole(math.MaxInt), true}, {fun(in, hole(1)), true}, {fun(fun(in, ref), fun(ref, in)), true},
		{of(shape.Int, 0, []shape.Shape{}...), true},
		{shape.Shape{Kind: shape.Int, Kids: []shape.Shape{}}, true},
		{of(0, 0), false}, {of(5, 0), false}, {of(-1, 0), false}, {of(math.MaxInt, 0), false}, {of(math.MinInt, 0), false},
		{of(shape.Int, 1), false}, {of(shape.Int, -1), false}, {of(shape.Ref, 1), false}, {of(shape.Hole, -1), false}, {of(shape.Hole, math.MinInt), false},
		{of(shape.Int, 0, in), false}, {of(shape.Ref, 0, in), false}, {of(shape.Hole, 0, in), false}, {of(shape.Ref, 0, in, in), false},
		{of(shape.Fun, 0), false}, {of(shape.Fun, 0, in), false}, {of(shape.Fun, 0, in, in, in), false}, {of(shape.Fun, 1, in, in), false}, {of(shape.Fun, -1, in, in), false},
		{fun(in, of(0, 0)), false}, {fun(of(0, 0), in), false}, {fun(fun(in, fun(in, of(shape.Int, 7))), in), false},
	} {
		if shape.Right(c.s) != c.want || (shape.Text(c.s) != "?") != c.want {
			t.Error(i, c.s)
		}
	}
}

// P8.1: what is the same is that in all fields and Kids; all small shapes with each other.
func TestSame(t *testing.T) {
	small := append(allOf(1, wrongHeads()), allOf(2, wrongHeads())...)
	small = append(small, rightTo(3, leaves(0, 1))...)
	small = append(small, allOf(4, []shape.Shape{in, of(shape.Fun, 0)})...)
	for i, a := range small {
		for j, b := range small {
			if got, want := shape.Same(a, b), modelSame(a, b); got != want {
				t.Fatal(i, j, a, b, got)
			}
		}
	}
	if !shape.Same(shape.Shape{Kind: 1, Kids: []shape.Shape{}}, in) {
		t.Error("no Kids, nil or not, are the same")
	}
	deep := spine(9, 1, fun(in, hole(1)), ref)
	for d := range 9 {
		for _, side := range []shape.Shape{in, hole(1), fun(in, hole(2)), fun(ref, hole(1)), {}} {
			other := copied(deep)
			x := &other
			for range d {
				x = &x.Kids[1]
			}
			x.Kids[0] = side
			if shape.Same(deep, other) || shape.Same(other, deep) {
				t.Error(d, side)
			}
		}
	}
	if !shape.Same(deep, copied(deep)) {
		t.Error("a copy")
	}
}

// P8.1: of Holes each number comes once, rising, of whatever Kind what they stand in is.
func TestHoles(t *testing.T) {
	for i, c := range []struct {
		s    shape.Shape
		want []int
	}{
		{in, nil},
		{fun(in, ref), nil},
		{hole(7), []int{7}},
		{fun(hole(7), hole(7)), []int{7}},
		{fun(fun(hole(9), hole(2)), fun(hole(10), hole(2))), []int{2, 9, 10}},
		{of(shape.Hole, 5, hole(3), of(shape.Hole, 5, hole(-1))), []int{-1, 3, 5}},
		{of(shape.Int, 4, of(0, 6, hole(1))), []int{1}},
		{fun(hole(math.MaxInt), hole(math.MinInt)), []int{math.MinInt, math.MaxInt}},
	} {
		if got := shape.Holes(c.s); !slices.Equal(got, c.want) {
			t.Error(i, got)
		}
	}
	wide := of(0, 0)
	for i := range 1000 {
		wide.Kids = append(wide.Kids, hole(i*7919%1000))
	}
	for i, n := range shape.Holes(wide) {
		if i != n {
			t.Fatal(i, n)
		}
	}
}

// P8.1: Int is all that is put for a Hole, whatever that has beside its number.
func TestGround(t *testing.T) {
	for i, c := range []struct{ s, want shape.Shape }{
		{hole(4), in},
		{fun(hole(4), fun(ref, hole(1))), fun(in, fun(ref, in))},
		{of(shape.Hole, -3, hole(1), ref), in},
		{of(7, 8, hole(1), of(shape.Ref, 2, hole(0))), of(7, 8, in, of(shape.Ref, 2, in))},
		{shape.Shape{}, shape.Shape{}},
	} {
		if got := shape.Ground(c.s); !modelSame(got, c.want) {
			t.Error(i, got)
		}
	}
}

// P8.2: what l has is put in, the first Bind of a number, and is not gone through again.
func TestApply(t *testing.T) {
	odd := of(shape.Hole, 5, hole(1), hole(2))
	for i, c := range []struct {
		l       []shape.Bind
		s, want shape.Shape
	}{
		{nil, fun(hole(1), in), fun(hole(1), in)},
		{[]shape.Bind{{N: 1, S: ref}}, hole(1), ref},
		{[]shape.Bind{{N: 1, S: ref}}, hole(2), hole(2)},
		{[]shape.Bind{{N: 1, S: ref}}, fun(hole(1), fun(hole(0), hole(1))), fun(ref, fun(hole(0), ref))},
		{[]shape.Bind{{N: 1, S: hole(2)}, {N: 2, S: hole(1)}}, fun(hole(1), hole(2)), fun(hole(2), hole(1))},
		{[]shape.Bind{{N: 1, S: fun(hole(1), hole(1))}}, hole(1), fun(hole(1), hole(1))},
		{[]shape.Bind{{N: 4, S: hole(1)}, {N: 1, S: in}, {N: 4, S: ref}, {N: 4, S: in}}, fun(hole(4), hole(1)), fun(hole(1), in)},
		{[]shape.Bind{{N: 3, S: in}, {N: 1, S: ref}}, fun(hole(1), hole(3)), fun(ref, in)},
		{[]shape.Bind{{N: -1, S: in}, {N: math.MinInt, S: ref}}, fun(hole(math.MinInt), hole(-1)), fun(ref, in)},
		// What is no Hole is left, though its N be that of a Bind.
		{[]shape.Bind{{N: 0, S: ref}, {N: 1, S: ref}}, fun(in, of(shape.Int, 1)), fun(in, of(shape.Int, 1))},
		// What is not right is put in, and gone through, all the same.
		{[]shape.Bind{{N: 1, S: of(9, 9, hole(1))}}, of(8, 8, hole(1), of(0, 0, hole(1))), of(8, 8, of(9, 9, hole(1)), of(0, 0, of(9, 9, hole(1))))},
		{[]shape.Bind{{N: 5, S: in}}, odd, in},
		{[]shape.Bind{{N: 1, S: in}}, fun(odd, hole(1)), fun(odd, in)},
		{[]shape.Bind{{N: 1, S: odd}, {N: 2, S: in}}, fun(hole(1), hole(2)), fun(odd, in)},
	} {
		if got := shape.Apply(c.l, c.s); !modelSame(got, c.want) {
			t.Error(i, got)
		}
	}
}

// P8.2: all small shapes and lists against the model.
func TestAllApply(t *testing.T) {
	puts := []shape.Shape{in, hole(1), fun(hole(0), hole(1)), of(shape.Hole, 0, hole(1)), {}}
	var lists [][]shape.Bind
	for _, n := range []int{0, 1, -1} {
		for _, s := range puts {
			lists = append(lists, []shape.Bind{{N: n, S: s}})
			for _, m := range []int{0, 1, -1} {
				for _, r := range puts {
					lists = append(lists, []shape.Bind{{N: n, S: s}, {N: m, S: r}})
				}
			}
		}
	}
	shapes := rightTo(5, leaves(0, 1))
	for size := 1; size <= 4; size++ {
		shapes = append(shapes, allOf(size, []shape.Shape{of(shape.Hole, 0), of(shape.Hole, 1), of(0, 1)})...)
	}
	for _, l := range lists {
		for _, s := range shapes {
			if got, want := shape.Apply(l, s), modelApply(l, s); !modelSame(got, want) {
				t.Fatal(l, s, got, want)
			}
		}
	}
}

// P8.4: texts.
func TestText(t *testing.T) {
	for i, c := range []struct {
		s    shape.Shape
		want string
	}{
		{in, "int"}, {ref, "ref"}, {hole(0), "'0"}, {hole(math.MaxInt), "'9223372036854775807"},
		{fun(in, ref), "(int -> ref)"},
		{fun(fun(hole(10), in), fun(ref, fun(in, hole(2)))), "(('10 -> int) -> (ref -> (int -> '2)))"},
		{shape.Shape{}, "?"}, {hole(-1), "?"}, {fun(in, shape.Shape{}), "?"},
	} {
		if got := shape.Text(c.s); got != c.want {
			t.Error(i, got)
		}
	}
	if got := shape.Text(spine(1000, 0, ref, hole(7))); got != strings.Repeat("(", 1000)+"'7"+strings.Repeat(" -> ref)", 1000) {
		t.Error("the way down in the first Kid")
	}
	if got := shape.Text(spine(1000, 1, ref, hole(7))); got != strings.Repeat("(ref -> ", 1000)+"'7"+strings.Repeat(")", 1000) {
		t.Error("the way down in the second Kid")
	}
}

// copied is s in memory of its own, which has room behind the Kids.
func copied(s shape.Shape) shape.Shape {
	kids := make([]shape.Shape, 0, len(s.Kids)+1)
	for _, k := range s.Kids {
		kids = append(kids, copied(k))
	}
	kids = append(kids, hole(77))
	s.Kids = kids[:len(kids)-1]
	return s
}

// spared asks whether what stands behind all Kids is as copied left it.
func spared(s shape.Shape) bool {
	behind := s.Kids[:len(s.Kids)+1]
	return modelSame(behind[len(s.Kids)], hole(77)) && !slices.ContainsFunc(s.Kids, func(k shape.Shape) bool { return !spared(k) })
}

// spoil writes into all of s, and behind it.
func spoil(s *shape.Shape) {
	_ = append(s.Kids, of(9, 9))
	for i := range s.Kids {
		spoil(&s.Kids[i])
	}
	s.Kind, s.N = 8, 8
}

// P3: what is handed in stays as it is, and so does what stands behind it; what is told shares memory neither with that nor with itself.
func TestMemory(t *testing.T) {
	s := copied(fun(fun(hole(1), in), fun(hole(2), fun(hole(1), of(shape.Hole, 3, hole(1), in)))))
	l := []shape.Bind{{N: 1, S: copied(fun(in, fun(hole(1), ref)))}, {N: 2, S: copied(in)}, {N: 1, S: copied(ref)}, {N: 77}}[:3]
	was, had := fmt.Sprint(s), fmt.Sprint(l)
	kept := func() bool {
		ok := fmt.Sprint(s) == was && spared(s) && fmt.Sprint(l) == had && l[:4][3].N == 77
		return ok && !slices.ContainsFunc(l, func(b shape.Bind) bool { return !spared(b.S) })
	}
	shape.Right(s)
	shape.Same(s, s)
	shape.Size(s)
	shape.Holes(s)
	shape.Text(s)
	told := shape.Apply(l, s)
	grounded := shape.Ground(s)
	if !kept() {
		t.Error("what was handed in is another")
	}
	want := modelApply(l, s)
	spoil(&told.Kids[0].Kids[0])
	if !modelSame(told.Kids[1], want.Kids[1]) {
		t.Error("what is put in twice shares memory")
	}
	spoil(&told)
	spoil(&grounded)
	if !kept() {
		t.Error("the answer shares memory with what was handed in")
	}
	if !reflect.DeepEqual(shape.Apply(l, s), shape.Apply(l, s)) {
		t.Error("twice the same call")
	}
}
