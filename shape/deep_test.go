package shape_test

import (
	"runtime/debug"
	"slices"
	"testing"

	"chancel/shape"
)

// narrow lets a test have so little stack that calls that go down a shape of depth far, one a level, end it.
func narrow(t *testing.T) {
	was := debug.SetMaxStack(2 << 20)
	t.Cleanup(func() { debug.SetMaxStack(was) })
}

const far = 100_000

// P1, P8.1, P8.2, P8.4: a shape may be as deep as memory goes, in whichever Kid.
func TestFar(t *testing.T) {
	narrow(t)
	for i := range 2 {
		s := spine(far, i, hole(3), hole(1))
		if !shape.Right(s) || shape.Size(s) != 2*far+1 || !slices.Equal(shape.Holes(s), []int{1, 3}) || !shape.Same(s, s) {
			t.Error(i, shape.Size(s), shape.Holes(s))
		}
		if shape.Same(s, spine(far, i, hole(3), hole(2))) || shape.Same(spine(far, i, hole(3), in), s) || shape.Right(spine(far, i, hole(3), shape.Shape{})) {
			t.Error(i, "what is lowest counts")
		}
		if !shape.Same(shape.Ground(s), spine(far, i, in, in)) {
			t.Error(i, "Ground")
		}
		if x := shape.Apply([]shape.Bind{{N: 1, S: ref}, {N: 3, S: fun(in, in)}}, s); !shape.Same(x, spine(far, i, fun(in, in), ref)) {
			t.Error(i, "Apply")
		}
		// What is put in may be as deep, too.
		if x := shape.Apply([]shape.Bind{{N: 1, S: s}}, s); shape.Size(x) != 4*far+1 {
			t.Error(i, shape.Size(x))
		}
		if text := shape.Text(s); len(text) != 8*far+2 {
			t.Error(i, len(text))
		}
		if text := shape.Text(spine(far, i, in, shape.Shape{})); text != "?" {
			t.Error(i, text)
		}
	}
}

// P1, P8.3: what is unified may be as deep, if what stands for Holes is not.
func TestUnifyFar(t *testing.T) {
	narrow(t)
	for i := range 2 {
		s := spine(far, i, hole(3), hole(1))
		for _, c := range []struct {
			b    shape.Shape
			want string
			ok   bool
		}{
			{s, "", true},
			{spine(far, i, in, ref), "1=ref 3=int ", true},
			{spine(far, i, hole(1), hole(0)), "1='0 3='0 ", true},
			{spine(far, i, in, fun(hole(9), in)), "1=('9 -> int) 3=int ", true},
			{spine(far, i, in, fun(hole(3), hole(3))), "1=(int -> int) 3=int ", true},
			{spine(far, i, in, fun(hole(1), in)), "", false},
			{spine(far-1, i, hole(3), in), "", false},
			{spine(far-1, i, hole(3), hole(7)), []string{"7=('1 -> '3) ", "7=('3 -> '1) "}[i], true},
			{spine(far-49, i, hole(3), hole(7)), "", true},
			{spine(far-50, i, hole(3), hole(7)), "", false},
			{hole(5), "", false},
			{spine(far, i, in, shape.Shape{}), "", false},
		} {
			l, ok := shape.Unify(nil, s, c.b)
			m, also := shape.Unify(nil, c.b, s)
			if ok != c.ok || also != c.ok || c.want != "" && texts(l) != c.want || texts(m) != texts(l) {
				t.Error(i, c.want, texts(l), ok, texts(m), also)
			}
		}
		if _, ok := shape.Unify([]shape.Bind{{N: 0, S: s}}, in, in); ok {
			t.Error(i, "an S that is too great")
		}
	}
}

// P8.3: what Holes stand for, one for the other, may come to be greater than memory; that is told without making it.
func TestUnifyGreat(t *testing.T) {
	const many = 3000
	holes := func(from int) shape.Shape {
		s := hole(from + many)
		for i := many - 1; i > 0; i-- {
			s = fun(hole(from+i), s)
		}
		return s
	}
	if l, ok := shape.Unify(nil, holes(0), doubled(0, many)); ok || l != nil {
		t.Error("doubled", len(l))
	}
	// Two such, and what is greatest in them being the same.
	both := fun(fun(holes(0), holes(many+1)), hole(many))
	if l, ok := shape.Unify(nil, both, fun(fun(doubled(0, many), doubled(many+1, many)), hole(2*many+1))); ok || l != nil {
		t.Error("twice doubled", len(l))
	}
	// As many, of which none is great.
	ones := fun(hole(many), hole(many))
	for range many - 1 {
		ones = fun(fun(hole(many+1), in), ones)
	}
	l, ok := shape.Unify(nil, holes(-1), ones)
	if !ok || len(l) != many || modelText(l[0].S) != "('3001 -> int)" || modelText(l[many-1].S) != "('3000 -> '3000)" {
		t.Error(ok, len(l))
	}
}

// P8.3: many Holes made the same, in orders that let ways to what stands for them grow.
func TestUnifyMany(t *testing.T) {
	narrow(t)
	const many = 200_000
	for i, other := range []func(n int) int{
		func(n int) int { return n + 1 },
		func(n int) int { return many - n },
		func(n int) int { return n / 2 },
		func(n int) int { return n * 7919 % (many + 1) },
		func(n int) int { return many },
	} {
		var rows [2][]shape.Shape
		for n := range many {
			rows[0] = append(rows[0], hole(n))
			rows[1] = append(rows[1], hole(other(n)))
		}
		a, b := row(rows[0]), row(rows[1])
		l, ok := shape.Unify(nil, a, b)
		if !ok {
			t.Fatal(i)
		}
		least := leasts(many+1, other)
		for _, bind := range l {
			if bind.S.Kind != shape.Hole || bind.S.N != least[bind.N] || bind.N == least[bind.N] {
				t.Fatal(i, bind)
			}
			least[bind.N] = bind.N
		}
		for n, m := range least {
			if n != m {
				t.Fatal(i, n, m)
			}
		}
	}
}

// row is a shape that is made of all of l.
func row(l []shape.Shape) shape.Shape {
	s := in
	for i := range l {
		s = fun(l[i], s)
	}
	return s
}

// leasts tells, of each number below that, the least one that it is made the same as, each n being made the same as other of it.
func leasts(below int, other func(n int) int) []int {
	by := make([][]int, below)
	for n := range below - 1 {
		by[n] = append(by[n], other(n))
		by[other(n)] = append(by[other(n)], n)
	}
	least := slices.Repeat([]int{-1}, below)
	for n := range below {
		left := []int{n}
		for len(left) > 0 {
			m := left[len(left)-1]
			left = left[:len(left)-1]
			if least[m] < 0 {
				least[m] = n
				left = append(left, by[m]...)
			}
		}
	}
	return least
}

// P1: a shape may have as many Kids as memory has, none of which is right.
func TestWide(t *testing.T) {
	const many = 1 << 20
	kids := make([]shape.Shape, many)
	for i := range kids {
		kids[i] = []shape.Shape{hole(i % 5), in, fun(hole(9), ref)}[i%3]
	}
	for _, kind := range []int{shape.Int, shape.Ref, shape.Fun, shape.Hole, 0} {
		s := of(kind, 0, kids...)
		if shape.Right(s) || shape.Text(s) != "?" || shape.Size(s) != 1+many+2*(many/3) || !slices.Equal(shape.Holes(s), []int{0, 1, 2, 3, 4, 9}) || !shape.Same(s, of(kind, 0, slices.Clone(kids)...)) {
			t.Error(kind, shape.Size(s), shape.Holes(s))
		}
		if l, ok := shape.Unify(nil, s, hole(1)); ok || l != nil {
			t.Error(kind)
		}
		x, want := shape.Ground(s), many
		if kind == shape.Hole {
			want = 0
		}
		if len(x.Kids) != want || len(shape.Holes(x)) != 0 {
			t.Error(kind, len(x.Kids))
		}
		if x := shape.Apply([]shape.Bind{{N: 9, S: in}, {N: 3, S: in}}, s); kind != shape.Hole && !slices.Equal(shape.Holes(x), []int{0, 1, 2, 4}) {
			t.Error(kind, shape.Holes(x))
		}
	}
}

// P1: shapes that share their Kids count as often as they stand there.
func TestShared(t *testing.T) {
	s := fun(hole(0), ref)
	for range 14 {
		s = fun(s, s)
	}
	const size = 1<<16 - 1
	if !shape.Right(s) || shape.Size(s) != size || !slices.Equal(shape.Holes(s), []int{0}) || len(shape.Text(s)) != len(modelText(s)) {
		t.Error(shape.Size(s))
	}
	x := shape.Apply([]shape.Bind{{N: 0, S: fun(in, in)}}, s)
	if shape.Size(x) != size+2*(1<<14) || !shape.Same(shape.Ground(s), modelGround(s)) {
		t.Error(shape.Size(x))
	}
	if l, ok := shape.Unify(nil, s, x); !ok || texts(l) != "0=(int -> int) " {
		t.Error(texts(l), ok)
	}
}
