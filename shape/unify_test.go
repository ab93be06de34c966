package shape_test

import (
	"fmt"
	"math"
	"math/rand"
	"slices"
	"testing"

	"chancel/shape"
)

// unifies holds what is told of l, a, b, in both orders, against the model.
func unifies(t *testing.T, l []shape.Bind, a, b shape.Shape) ([]shape.Bind, bool) {
	t.Helper()
	want, ok := modelUnify(l, a, b)
	got, is := shape.Unify(l, a, b)
	if is != ok || texts(got) != texts(want) || !is && got != nil {
		t.Fatalf("%s%s, %s: %s%v, not %s%v", texts(l), modelText(a), modelText(b), texts(got), is, texts(want), ok)
	}
	if turned, also := shape.Unify(l, b, a); also != is || texts(turned) != texts(got) {
		t.Fatalf("%s%s, %s: %s%v, turned %s%v", texts(l), modelText(a), modelText(b), texts(got), is, texts(turned), also)
	}
	return got, is
}

// P8.3: what is unified, to the letter.
func TestUnify(t *testing.T) {
	for i, c := range []struct {
		l    []shape.Bind
		a, b shape.Shape
		want string
		ok   bool
	}{
		{nil, in, in, "", true},
		{nil, ref, ref, "", true},
		{nil, in, ref, "", false},
		{nil, fun(in, in), ref, "", false},
		{nil, fun(in, in), fun(in, ref), "", false},
		{nil, fun(in, in), fun(ref, in), "", false},
		{nil, hole(0), hole(0), "", true},
		{nil, hole(0), in, "0=int ", true},
		{nil, hole(0), fun(in, in), "0=(int -> int) ", true},
		{nil, fun(hole(0), hole(1)), fun(hole(1), in), "0=int 1=int ", true},
		{nil, fun(hole(0), in), fun(ref, hole(1)), "0=ref 1=int ", true},
		{nil, hole(math.MaxInt), ref, "9223372036854775807=ref ", true},
		{nil, hole(math.MaxInt), hole(0), "9223372036854775807='0 ", true},
		{nil, hole(0), fun(hole(0), in), "", false},
		{nil, fun(hole(0), in), hole(0), "", false},
		{nil, fun(hole(0), hole(1)), fun(fun(hole(1), in), fun(hole(0), in)), "", false},
		{nil, fun(hole(0), hole(0)), fun(hole(1), fun(hole(1), in)), "", false},
		{nil, fun(hole(5), fun(hole(3), hole(4))), fun(hole(4), fun(hole(5), hole(9))), "4='3 5='3 9='3 ", true},
		{nil, fun(hole(5), fun(hole(3), hole(5))), fun(hole(4), fun(hole(4), ref)), "3=ref 4=ref 5=ref ", true},
		{nil, fun(hole(2), hole(2)), fun(fun(hole(0), in), fun(ref, hole(1))), "0=ref 1=int 2=(ref -> int) ", true},
		{nil, fun(hole(2), hole(2)), fun(fun(hole(0), in), fun(ref, ref)), "", false},
		{[]shape.Bind{{N: 1, S: in}}, ref, ref, "1=int ", true},
		{[]shape.Bind{{N: 1, S: in}}, ref, in, "", false},
		{[]shape.Bind{{N: 1, S: in}}, hole(1), in, "1=int ", true},
		{[]shape.Bind{{N: 1, S: in}}, hole(1), ref, "", false},
		{[]shape.Bind{{N: 1, S: in}}, hole(1), hole(0), "0=int 1=int ", true},
		{[]shape.Bind{{N: 1, S: hole(2)}}, ref, ref, "1='2 ", true},
		{[]shape.Bind{{N: 1, S: hole(2)}}, hole(1), hole(2), "1='2 ", true},
		{[]shape.Bind{{N: 1, S: hole(2)}}, hole(1), hole(0), "1='0 2='0 ", true},
		{[]shape.Bind{{N: 1, S: hole(2)}}, hole(2), hole(3), "1='2 3='2 ", true},
		{[]shape.Bind{{N: 1, S: hole(2)}}, hole(1), hole(3), "1='2 3='2 ", true},
		{[]shape.Bind{{N: 0, S: hole(5)}, {N: 1, S: hole(5)}}, hole(0), hole(1), "0='5 1='5 ", true},
		{[]shape.Bind{{N: 0, S: hole(5)}, {N: 1, S: hole(7)}}, hole(0), hole(1), "0='5 1='5 7='5 ", true},
		{[]shape.Bind{{N: 0, S: hole(5)}, {N: 1, S: hole(7)}}, fun(hole(0), hole(1)), hole(9), "0='5 1='7 9=('5 -> '7) ", true},
		{[]shape.Bind{{N: 0, S: fun(hole(5), in)}}, hole(0), hole(5), "", false},
		{[]shape.Bind{{N: 0, S: fun(hole(5), in)}}, hole(0), fun(hole(0), in), "", false},
		{[]shape.Bind{{N: 0, S: fun(hole(5), in)}}, hole(0), fun(ref, hole(6)), "0=(ref -> int) 5=ref 6=int ", true},
		// Holes that are in no S by which a or b is made stay as they are.
		{[]shape.Bind{{N: 2, S: fun(hole(8), hole(1))}, {N: 3, S: hole(0)}}, hole(3), hole(9), "2=('8 -> '1) 3='0 9='0 ", true},
	} {
		got, ok := unifies(t, c.l, c.a, c.b)
		if texts(got) != c.want || ok != c.ok {
			t.Error(i, texts(got), ok)
		}
	}
}

// P8.3: what is not in order, or not right, is unified with nothing, though the rest be.
func TestUnifyWrong(t *testing.T) {
	for i, l := range [][]shape.Bind{
		{{N: -1, S: in}},
		{{N: math.MinInt, S: in}},
		{{N: 1, S: in}, {N: 0, S: in}},
		{{N: 1, S: in}, {N: 1, S: in}},
		{{N: 1, S: in}, {N: 3, S: in}, {N: 2, S: in}},
		{{N: math.MaxInt, S: in}, {N: 0, S: in}},
		{{N: math.MaxInt, S: in}, {N: math.MaxInt, S: in}},
		{{N: math.MaxInt, S: in}, {N: math.MinInt, S: in}},
		{{N: 0, S: hole(0)}},
		{{N: 0, S: fun(in, fun(in, hole(0)))}},
		{{N: 0, S: hole(1)}, {N: 1, S: in}},
		{{N: 0, S: in}, {N: 1, S: fun(hole(0), in)}},
		{{N: 0, S: shape.Shape{}}},
		{{N: 0, S: hole(-1)}},
		{{N: 0, S: fun(in, of(shape.Int, 1))}},
		{{N: 0, S: in}, {N: 1, S: of(shape.Fun, 0, in)}},
		{{N: 0, S: spine(50, 1, in, in)}},
		{{N: 0, S: in}, {N: 1, S: spine(50, 0, in, hole(7))}},
	} {
		for _, s := range []shape.Shape{in, hole(5), hole(0)} {
			if got, ok := unifies(t, l, s, s); ok || got != nil {
				t.Error(i, texts(got))
			}
		}
	}
	for i, s := range wrong() {
		if modelRight(s) {
			continue
		}
		for _, l := range [][]shape.Bind{nil, {{N: 0, S: in}}} {
			if got, ok := unifies(t, l, s, in); ok || got != nil {
				t.Fatal(i, s, texts(got))
			}
			if got, ok := unifies(t, l, s, s); ok || got != nil {
				t.Fatal(i, s, texts(got))
			}
		}
	}
}

// P8.3: an S has a Size of at most Most, however great what is unified is.
func TestUnifySize(t *testing.T) {
	greatest := spine(49, 1, in, in)
	greater := spine(50, 1, in, in)
	if shape.Size(greatest) != 99 || shape.Size(greater) != 101 {
		t.Fatal(shape.Size(greatest))
	}
	for i, c := range []struct {
		l    []shape.Bind
		a, b shape.Shape
		ok   bool
	}{
		{nil, hole(0), greatest, true},
		{nil, hole(0), greater, false},
		{nil, greater, greater, true},
		{nil, fun(greater, hole(1)), fun(greater, greatest), true},
		{nil, fun(greater, hole(1)), fun(greater, greater), false},
		{nil, spine(60, 1, greater, hole(3)), spine(60, 1, greater, greatest), true},
		{nil, spine(60, 1, greater, hole(3)), spine(60, 1, hole(4), greatest), false},
		{[]shape.Bind{{N: 0, S: greatest}}, in, in, true},
		{[]shape.Bind{{N: 0, S: greatest}}, hole(0), greatest, true},
		{[]shape.Bind{{N: 0, S: greatest}}, hole(0), hole(1), true},
		{[]shape.Bind{{N: 0, S: greater}}, in, in, false},
		{[]shape.Bind{{N: 0, S: greatest}}, fun(hole(0), in), fun(greatest, in), true},
		{[]shape.Bind{{N: 0, S: greatest}}, fun(hole(0), in), hole(1), false},
		// What stands already for a Hole grows by what is put into it, and may not grow too great, even where a and b do not have it.
		{[]shape.Bind{{N: 0, S: fun(hole(3), in)}}, hole(3), spine(48, 1, in, in), true},
		{[]shape.Bind{{N: 0, S: fun(hole(3), in)}}, hole(3), greatest, false},
		{[]shape.Bind{{N: 0, S: fun(hole(3), hole(4))}}, fun(hole(3), hole(4)), fun(spine(24, 0, ref, in), spine(24, 1, ref, in)), true},
		{[]shape.Bind{{N: 0, S: fun(hole(3), hole(4))}}, fun(hole(3), hole(4)), fun(spine(24, 0, ref, in), spine(25, 1, ref, in)), false},
		// Doubled five times over it is small enough, six times over it is not.
		{nil, fun(hole(1), fun(hole(2), fun(hole(3), fun(hole(4), hole(5))))), doubled(0, 5), true},
		{nil, fun(hole(1), fun(hole(2), fun(hole(3), fun(hole(4), fun(hole(5), hole(6)))))), doubled(0, 6), false},
	} {
		if got, ok := unifies(t, c.l, c.a, c.b); ok != c.ok || len(got) > 0 != (ok && (len(c.l) > 0 || len(modelHoles(c.a)) > 0)) {
			t.Error(i, texts(got), ok)
		}
	}
	for n := 1; n <= 30; n++ {
		if _, ok := unifies(t, nil, hole(0), fun(spine(n, 0, in, ref), spine(48-n, 1, in, hole(3)))); !ok {
			t.Error(n, "of 99")
		}
		if _, ok := unifies(t, nil, hole(0), fun(spine(n, 0, in, ref), spine(49-n, 1, in, hole(3)))); ok {
			t.Error(n, "of 101")
		}
	}
}

// doubled is a list of so many Funs, each of two Holes of the number below that which it is to stand for.
func doubled(from, many int) shape.Shape {
	f := fun(hole(from), hole(from))
	if many == 1 {
		return f
	}
	return fun(f, doubled(from+1, many-1))
}

// is asks whether what is told of l, a, b is what P8.3 says, of all substitutions of among.
func is(t *testing.T, among [][]shape.Bind, l []shape.Bind, a, b shape.Shape) bool {
	t.Helper()
	m, ok := shape.Unify(l, a, b)
	if ok {
		if !modelAnswers(m, l, a, b) {
			t.Fatalf("%s%s, %s: %s is no answer", texts(l), modelText(a), modelText(b), texts(m))
		}
		plain(t, m, l, a, b)
	}
	for _, n := range among {
		if !modelAnswers(n, l, a, b) {
			continue
		}
		if !ok {
			t.Fatalf("%s%s, %s: there is %s", texts(l), modelText(a), modelText(b), texts(n))
		}
		// What n makes of each S of m has to be what n makes of its Hole: n is some substitution behind m.
		for _, bind := range m {
			if !modelSame(modelApply(n, bind.S), modelApply(n, hole(bind.N))) {
				t.Fatalf("%s%s, %s: %s is not as general as %s", texts(l), modelText(a), modelText(b), texts(m), texts(n))
			}
		}
	}
	return ok
}

// plain asks whether m has no Binds but those it may have, and of two Holes the lesser for the greater.
func plain(t *testing.T, m, l []shape.Bind, a, b shape.Shape) {
	t.Helper()
	ns := modelNs(l)
	may := append(modelHoles(modelApply(l, a)), modelHoles(modelApply(l, b))...)
	for _, bind := range m {
		first := slices.Contains(ns, bind.N)
		if !first && (!slices.Contains(may, bind.N) || bind.S.Kind == shape.Hole && bind.S.N > bind.N) {
			t.Fatalf("%s%s, %s: %s", texts(l), modelText(a), modelText(b), texts(m))
		}
	}
}

// P8.3: all small shapes, with all small substitutions, against the words: what is told is in order, fits, and is as general as each other small one that does; where nothing is told there is none.
func TestAllUnify(t *testing.T) {
	among := ordered(3, []int{0, 1, 2})
	small := rightTo(3, leaves(0, 1, 2))
	some := rightTo(5, leaves(0, 1, 2))
	fits := 0
	for i, a := range some {
		for j, b := range small {
			if (i+j)%7 == 0 && is(t, among, nil, a, b) {
				fits++
			}
		}
	}
	for _, l := range ordered(1, []int{0, 1, 2}) {
		for _, a := range small[:5] {
			for _, b := range small {
				if is(t, among, l, a, b) {
					fits++
				}
			}
		}
	}
	for i, l := range ordered(3, []int{0, 1}, 2, 3) {
		for j, a := range small {
			for k, b := range small {
				if (i+j*7+k*11)%83 == 0 && is(t, among, l, a, b) {
					fits++
				}
			}
		}
	}
	if fits < 1000 {
		t.Error(fits)
	}
}

// P8.3, P8.5: all small shapes, and small substitutions, against the model.
func TestAllAgainstModel(t *testing.T) {
	some := rightTo(5, leaves(0, 1, 3))
	for i, a := range some {
		for j, b := range some {
			if (i+j)%2 == 0 {
				unifies(t, nil, a, b)
			}
		}
	}
	small := rightTo(3, leaves(0, 1, 3))
	for i, l := range ordered(3, []int{0, 2, 3}, 1, 5) {
		for j, a := range small {
			for k, b := range small {
				if (i+j*7+k*11)%37 == 0 {
					unifies(t, l, a, b)
				}
			}
		}
	}
}

// chance tells shapes by chance, the same ones each time.
type chance struct{ *rand.Rand }

func (c chance) shape(size, holes int) shape.Shape {
	if size < 3 || c.Intn(8) == 0 {
		if k := c.Intn(holes + 1); k < holes {
			return hole(k)
		}
		return []shape.Shape{in, ref}[c.Intn(2)]
	}
	first := 1 + c.Intn(size-2)
	return fun(c.shape(first, holes), c.shape(size-1-first, holes))
}

// P8.3, P8.5: greater shapes by chance: what is unified stays so as more is, whichever is first.
func TestChance(t *testing.T) {
	c := chance{rand.New(rand.NewSource(8))}
	long, none := 0, 0
	for range 4000 {
		holes := 6 + c.Intn(30)
		asked := make([][2]shape.Shape, 2+c.Intn(4))
		for i := range asked {
			asked[i] = [2]shape.Shape{c.shape(1+c.Intn(12), holes), c.shape(1+c.Intn(6), holes)}
		}
		l, ok := inTurn(t, asked)
		if !ok {
			none++
		}
		if len(l) > 5 {
			long++
		}
		for range 3 {
			c.Shuffle(len(asked), func(i, j int) { asked[i], asked[j] = asked[j], asked[i] })
			if m, also := inTurn(t, asked); also != ok || texts(m) != texts(l) {
				t.Fatal(asked, texts(l), ok, texts(m), also)
			}
		}
	}
	if long < 500 || none < 500 {
		t.Error(long, none)
	}
}

// inTurn unifies what is asked, one pair behind the other, and asks whether what was unified is so still.
func inTurn(t *testing.T, asked [][2]shape.Shape) (l []shape.Bind, ok bool) {
	t.Helper()
	for i, p := range asked {
		if l, ok = unifies(t, l, p[0], p[1]); !ok {
			return nil, false
		}
		for _, q := range asked[:i+1] {
			if !shape.Same(shape.Apply(l, q[0]), shape.Apply(l, q[1])) {
				t.Fatal(asked, i, texts(l))
			}
			if m, also := shape.Unify(l, q[0], q[1]); !also || texts(m) != texts(l) {
				t.Fatal(asked, i, texts(l), texts(m))
			}
		}
	}
	return l, ok
}

// P8.5: all at once, in one shape, is unified as it is one behind the other.
func TestAtOnce(t *testing.T) {
	c := chance{rand.New(rand.NewSource(85))}
	for range 5000 {
		asked := make([][2]shape.Shape, 2+c.Intn(5))
		a, b := in, in
		for i := range asked {
			asked[i] = [2]shape.Shape{c.shape(1+c.Intn(9), 9), c.shape(1+c.Intn(9), 9)}
			a, b = fun(a, asked[i][0]), fun(b, asked[i][1])
		}
		l, ok := inTurn(t, asked)
		if m, also := shape.Unify(nil, a, b); also != ok || texts(m) != texts(l) {
			t.Fatal(asked, texts(l), ok, texts(m), also)
		}
	}
}

// P3: what is handed in stays as it is, and so does what stands behind it; what is told shares memory neither with that nor with itself.
func TestUnifyMemory(t *testing.T) {
	l := []shape.Bind{{N: 0, S: copied(fun(hole(4), in))}, {N: 1, S: copied(fun(hole(4), hole(4)))}, {N: 2, S: copied(hole(5))}, {N: 77}}[:3]
	a, b := copied(fun(hole(1), fun(hole(2), hole(6)))), copied(fun(fun(fun(in, ref), hole(7)), fun(hole(0), hole(8))))
	was := fmt.Sprint(l, a, b)
	kept := func() bool {
		ok := fmt.Sprint(l, a, b) == was && spared(a) && spared(b) && l[:4][3].N == 77
		return ok && !slices.ContainsFunc(l, func(b shape.Bind) bool { return !spared(b.S) })
	}
	m, ok := unifies(t, l, a, b)
	if !ok || !kept() {
		t.Error("what was handed in is another", ok)
	}
	for i := range m {
		had := texts(slices.Delete(slices.Clone(m), i, i+1))
		x := copied(m[i].S)
		spoil(&m[i].S)
		if texts(slices.Delete(slices.Clone(m), i, i+1)) != had {
			t.Error(i, "two Binds share memory")
		}
		m[i].S = x
	}
	m, _ = shape.Unify(l, a, b)
	first := &m[1].S // ((int -> ref) -> (int -> ref))
	spoil(&first.Kids[0])
	if modelText(first.Kids[1]) != "(int -> ref)" {
		t.Error("one S shares memory with itself")
	}
	for i := range m {
		spoil(&m[i].S)
	}
	_ = append(m, shape.Bind{N: 9})
	if !kept() {
		t.Error("the answer shares memory with what was handed in")
	}
}
