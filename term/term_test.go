package term_test

import (
	"math"
	"slices"
	"strings"
	"testing"

	"chancel/term"
)

// holds holds all that is told of t against the model.
func holds(t *testing.T, x term.Term) {
	t.Helper()
	if term.Size(x) != modelSize(x) || term.Depth(x) != modelDepth(x) || term.Right(x) != modelRight(x) || term.Binder(x) != modelBinder(x) || !slices.Equal(term.Free(x), modelFree(x)) || !term.Same(x, x) {
		t.Fatal(x, term.Size(x), term.Depth(x), term.Right(x), term.Binder(x), term.Free(x))
	}
}

// P3.1: binders, whatever else they have.
func TestBinder(t *testing.T) {
	for _, kind := range append([]int{math.MinInt, -3, 0, 14, 259, 1 << 32, 1<<32 + 3, math.MaxInt}, allKinds...) {
		want := kind == 3 || kind == 5 || kind == 9
		for _, x := range []term.Term{{Kind: kind}, {Kind: kind, Name: "fun", N: 7}, of(kind, "x", num(1)), of(kind, "", num(1), num(2), num(3))} {
			if term.Binder(x) != want {
				t.Error(x)
			}
		}
	}
}

// P3.1: the numbers of the Kinds.
func TestKinds(t *testing.T) {
	if !slices.Equal(allKinds, []int{1, 2, 3, 4, 5, 6, 7, 8, 9, 10, 11, 12, 13}) {
		t.Error(allKinds)
	}
}

// P3.1, P3.2: right terms, each Kind among them.
func TestRight(t *testing.T) {
	for _, x := range samples() {
		if !term.Right(x) {
			t.Error(x)
		}
		holds(t, x)
	}
}

// P3.1, P3.2: Kinds, Names, Ns and Kids put together in every way, alone and as a Kid.
func TestRightAllWays(t *testing.T) {
	names := append([]string{"", " ", "x", "X", "x1", "1x", "1", "_", "x y", "x ", "é", "\xff", "x\x00", "Fun", "ins", "++", "+-", "==", "=>", ":=", ">", "<=", "!", ";", "+ ", "+-*<=", strings.Repeat("k", 16), strings.Repeat("k", 17), strings.Repeat("k", 1<<20)}, slices.Concat(keywords, operators)...)
	for _, kind := range append([]int{math.MinInt, -1, 0, 14, 15, 1 << 32, 1<<32 + 1, math.MaxInt}, allKinds...) {
		for _, name := range names {
			for _, n := range []int64{math.MinInt64, math.MinInt32, -1, 0, 1, 1<<31 - 1, 1 << 31, 1<<32 - 1, 1 << 32, math.MaxInt64} {
				for count := range 5 {
					x := term.Term{Kind: kind, Name: name, N: n, Kids: slices.Repeat([]term.Term{num(2)}, count)}
					want := modelHas(x)
					if term.Right(x) != want || term.Right(of(term.Raise, "", x)) != want || term.Right(of(term.If, "", num(1), x, num(1))) != want {
						t.Fatal(kind, name, n, count)
					}
				}
			}
		}
	}
}

// P3.2: whatever term in a right one is turned into a wrong one, it is right no more.
func TestNotRight(t *testing.T) {
	wrongs := []term.Term{{}, {Kind: 14}, num(-1), num(1 << 31), v(""), v("in"), of(term.Fun, "x"), of(term.Seq, "", num(1)), of(term.Get, "", num(1), num(1)), of(term.App, "x", num(1), num(1)), of(term.Op, "!", num(1), num(1)), of(term.While, "", num(1), num(1), num(1)), of(term.Num, "", num(1)), of(term.If, "", num(1), num(1))}
	for _, s := range samples() {
		if term.Size(s) > 1000 {
			continue
		}
		for i := range term.Size(s) {
			for _, w := range wrongs {
				x, at := copied(s), 0
				each(&x, func(y *term.Term) {
					if at == i {
						*y = w
					}
					at++
				})
				if term.Right(x) {
					t.Fatal(x)
				}
			}
		}
	}
}

// P3.2: the edges of what is right, in whichever Kid a term is deep.
func TestLimits(t *testing.T) {
	for _, kind := range allKinds {
		for i := range modelKids(kind) {
			x := num(0)
			for depth := 2; depth <= 205; depth++ {
				over := flat(kind)
				over.Kids[i] = x
				x = over
				if term.Depth(x) != depth || term.Size(x) != 1+(depth-1)*modelKids(kind) || term.Right(x) != (depth <= 200) {
					t.Error(kind, i, depth)
				}
			}
		}
	}
	for size, want := range map[int]bool{1: true, 2: true, 3: true, 9999: true, 10000: true, 10001: false, 10002: false, 20000: false} {
		if x := sized(size); term.Size(x) != size || term.Right(x) != want {
			t.Error(size)
		}
	}
}

// P3.2: sizes and depths of terms by the letter, right or not.
func TestSizeDepth(t *testing.T) {
	for _, c := range []struct {
		x           term.Term
		size, depth int
	}{
		{term.Term{}, 1, 1}, {num(-5), 1, 1}, {of(-1, "?", term.Term{}, term.Term{}), 3, 2}, {of(term.Var, "x", v("y")), 2, 2},
		{of(term.Seq, "", num(1), of(term.Get, "", of(term.Get, "", num(1)))), 5, 4}, {of(term.Seq, "", of(term.Get, "", of(term.Get, "", num(1))), num(1)), 5, 4},
		{of(term.If, "", num(1), of(term.Get, "", num(1)), num(1)), 5, 3}, {of(0, "", slices.Repeat([]term.Term{of(0, "", num(1))}, 50)...), 101, 3},
	} {
		if term.Size(c.x) != c.size || term.Depth(c.x) != c.depth {
			t.Error(c.x, term.Size(c.x), term.Depth(c.x))
		}
	}
}

// P3.3: free names by the letter.
func TestFree(t *testing.T) {
	x, y, z := v("x"), v("y"), v("z")
	for i, c := range []struct {
		t    term.Term
		want string
	}{
		{of(term.Fun, "x", of(term.App, "", x, y)), "y"},
		{num(1), ""}, {term.Term{}, ""}, {x, "x"}, {of(term.Get, "x", num(1)), ""}, {term.Term{Kind: term.Num, Name: "x"}, ""},
		{of(term.Fun, "x", x), ""}, {of(term.Fun, "x", y), "y"}, {of(term.Fun, "X", x), "x"},
		{of(term.Let, "x", x, x), "x"}, {of(term.Let, "x", y, x), "y"}, {of(term.Let, "x", num(1), x), ""}, {of(term.Let, "x", x, num(1)), "x"},
		{of(term.Try, "x", x, x), "x"}, {of(term.Try, "x", y, x), "y"}, {of(term.Try, "x", num(1), x), ""},
		{of(term.Seq, "x", num(1), x), "x"}, {of(term.App, "x", x, x), "x"}, {of(term.Raise, "x", x), "x"},
		{of(term.Seq, "", of(term.Fun, "x", x), x), "x"}, {of(term.Seq, "", x, of(term.Fun, "x", x)), "x"}, {of(term.Seq, "", of(term.Fun, "x", x), of(term.Fun, "y", x)), "x"},
		{of(term.Fun, "x", of(term.Fun, "x", x)), ""}, {of(term.Fun, "x", of(term.Seq, "", of(term.Fun, "x", x), x)), ""}, {of(term.Fun, "x", of(term.Let, "x", x, x)), ""}, {of(term.Let, "x", of(term.Fun, "x", x), y), "y"},
		{of(term.Let, "x", of(term.Let, "y", x, y), of(term.Try, "z", z, y)), "x y z"},
		{of(term.If, "", z, y, x), "x y z"}, {of(term.If, "", x, x, x), "x"},
		{of(term.If, "", v("b"), v("B"), of(term.Seq, "", v("a1"), of(term.Seq, "", v("a"), v("aB")))), "B a a1 aB b"},
		{of(term.Fun, "x", x, x), "x"}, {of(term.Fun, "x", y, x), "y"}, {of(term.Fun, "x"), ""}, {of(term.Let, "x", x), ""}, {of(term.Try, "x", y, x, x), "x y"},
		{of(term.Var, "x", y), "x y"}, {of(term.Var, "x", of(term.Fun, "x", x)), "x"}, {of(term.Fun, "y", of(term.Var, "x", y)), "x"}, {of(99, "", x, y), "x y"},
		{of(term.Fun, "fun", v("fun")), ""}, {of(term.Fun, "", v("")), ""},
	} {
		if got := strings.Join(term.Free(c.t), " "); got != c.want {
			t.Errorf("%d: %q, not %q", i, got, c.want)
		}
	}
	odd := of(term.Seq, "", v("\xff"), of(term.Seq, "", v(""), of(term.Seq, "", v("é"), v("~"))))
	if got := term.Free(odd); !slices.Equal(got, []string{"", "~", "é", "\xff"}) {
		t.Errorf("%q", got)
	}
}

// P3.2, P3.3: all terms of few heads, with whatever Kids.
func TestAllTerms(t *testing.T) {
	heads := []term.Term{v("x"), v("y"), of(term.Fun, "x"), of(term.Let, "y"), of(term.Try, "x"), of(term.Seq, "")}
	for size := 1; size <= 5; size++ {
		for _, x := range allOf(size, heads) {
			holds(t, x)
		}
	}
}

// P3.2, P3.4: each two of all small terms, held against each other.
func TestSame(t *testing.T) {
	var all []term.Term
	for size := 1; size <= 3; size++ {
		all = append(all, allOf(size, []term.Term{{}, num(1), num(2), v("x"), v("y"), of(term.Fun, "x")})...)
	}
	for _, a := range all {
		for _, b := range all {
			same := modelSame(a, b)
			if term.Same(a, b) != same {
				t.Fatal(a, b)
			}
			if same && (term.Size(a) != term.Size(b) || term.Depth(a) != term.Depth(b) || !slices.Equal(term.Free(a), term.Free(b))) {
				t.Fatal(a, b, "same, but told unlike")
			}
		}
	}
}

// P3.2, P3.4: a copy is the same, till one field of one term in it is another.
func TestSameTurned(t *testing.T) {
	turns := []func(x *term.Term){
		func(x *term.Term) { x.Kind++ },
		func(x *term.Term) { x.Name += "q" },
		func(x *term.Term) { x.N-- },
		func(x *term.Term) { x.Kids = append(slices.Clone(x.Kids), num(0)) },
		func(x *term.Term) { x.Kids = append([]term.Term{v("x")}, x.Kids...) },
	}
	for _, s := range samples() {
		c := copied(s)
		if !term.Same(s, c) || !term.Same(c, s) || term.Size(s) != term.Size(c) || term.Depth(s) != term.Depth(c) || !slices.Equal(term.Free(s), term.Free(c)) {
			t.Fatal(s)
		}
		size := term.Size(s)
		for i := 0; i < size; i += 1 + size/30 {
			for j, turn := range turns {
				x, at := copied(s), 0
				each(&x, func(y *term.Term) {
					if at == i {
						turn(y)
					}
					at++
				})
				if term.Same(s, x) || term.Same(x, s) {
					t.Fatal(s, i, j)
				}
			}
		}
	}
}

// P5: no Kids may be nil or empty.
func TestNilOrEmpty(t *testing.T) {
	empty := term.Term{Kind: term.Var, Name: "x", Kids: []term.Term{}}
	if !term.Same(empty, v("x")) || !term.Same(v("x"), empty) || !term.Right(empty) || term.Depth(empty) != 1 || term.Right(term.Term{Kind: term.Fun, Name: "x", Kids: []term.Term{}}) {
		t.Error("empty")
	}
}

// P3, P4: nothing handed in is written into, what is told is told again, and in memory of its own.
func TestNothingIsWritten(t *testing.T) {
	for _, s := range append(samples(), of(term.Var, "b", of(0, "", v("a"), v("c"))), of(term.Fun, "x", v("x"), v("x"), v("y"))) {
		x := copied(s)
		for range 2 {
			holds(t, x)
			free := term.Free(x)
			slices.Reverse(free)
			if !term.Same(x, s) || !modelSame(x, s) || !spared(x) {
				t.Fatal(s, "is written into")
			}
		}
	}
}

// P4: many names come in one order.
func TestFreeOrder(t *testing.T) {
	var kids []term.Term
	var want []string
	for i := range 5000 {
		name := "n" + strings.Repeat("a", i%7) + string([]byte{byte('a' + i%26), byte('A' + i/26%26), byte('0' + i/676)})
		kids = append(kids, v(name))
		want = append(want, name)
	}
	slices.Sort(want)
	if got := term.Free(of(0, "", kids...)); !slices.Equal(got, slices.Compact(want)) {
		t.Error(len(got), len(want))
	}
}
