package scope_test

import (
	"math"
	"slices"
	"strconv"
	"testing"

	"chancel/scope"
	"chancel/term"
)

// holds holds what is told of x against the model.
func holds(t *testing.T, x term.Term, next int) {
	t.Helper()
	want, count := modelRename(x, next)
	got, behind := scope.Rename(x, next)
	if !term.Same(got, want) || behind != next+count || scope.Count(x) != count {
		t.Fatal(x, next, got, behind, scope.Count(x), "not", want, count)
	}
}

// P7.1: names that are made unlike, to the letter.
func TestRename(t *testing.T) {
	for i, c := range []struct {
		x          term.Term
		next       int
		want       term.Term
		also, many int
	}{
		{fun("x", of(term.App, "", v("x"), v("y"))), 3, fun("3", of(term.App, "", v("3"), v("y"))), 4, 1},
		{num(7), 3, num(7), 3, 0},
		{v("x"), 0, v("x"), 0, 0},
		{term.Term{}, 9, term.Term{}, 9, 0},
		{fun("x", v("x")), 0, fun("0", v("0")), 1, 1},
		{fun("x", v("y")), 10, fun("10", v("y")), 11, 1},
		{fun("x", fun("y", of(term.App, "", v("x"), v("y")))), 9, fun("9", fun("10", of(term.App, "", v("9"), v("10")))), 11, 2},
		{of(term.Let, "x", v("x"), v("x")), 1, of(term.Let, "1", v("x"), v("1")), 2, 1},
		{of(term.Try, "x", v("x"), v("x")), 1, of(term.Try, "1", v("x"), v("1")), 2, 1},
		{of(term.Let, "x", fun("x", v("x")), fun("x", v("x"))), 1, of(term.Let, "1", fun("2", v("2")), fun("3", v("3"))), 4, 3},
		{of(term.Let, "x", of(term.Let, "x", v("x"), v("x")), v("x")), 1, of(term.Let, "1", of(term.Let, "2", v("x"), v("2")), v("1")), 3, 2},
		{fun("x", of(term.Let, "x", v("x"), v("x"))), 1, fun("1", of(term.Let, "2", v("1"), v("2"))), 3, 2},
		{fun("x", of(term.Seq, "", fun("y", fun("x", v("x"))), of(term.App, "", v("x"), v("y")))), 1, fun("1", of(term.Seq, "", fun("2", fun("3", v("3"))), of(term.App, "", v("1"), v("y")))), 4, 3},
		{of(term.If, "", fun("x", v("x")), v("x"), fun("x", v("x"))), 1, of(term.If, "", fun("1", v("1")), v("x"), fun("2", v("2"))), 3, 2},
		{of(term.Op, "+", v("x"), fun("x", of(term.Op, "*", v("x"), num(2)))), 99, of(term.Op, "+", v("x"), fun("99", of(term.Op, "*", v("99"), num(2)))), 100, 1},
		// A name that is a number is a name like others: what is free stays as it is.
		{fun("1", v("1")), 5, fun("5", v("5")), 6, 1},
		{fun("x", of(term.App, "", v("x"), v("5"))), 5, fun("5", of(term.App, "", v("5"), v("5"))), 6, 1},
		{fun("2", fun("1", of(term.App, "", v("1"), v("2")))), 1, fun("1", fun("2", of(term.App, "", v("2"), v("1")))), 3, 2},
	} {
		got, also := scope.Rename(c.x, c.next)
		if !term.Same(got, c.want) || also != c.also || scope.Count(c.x) != c.many {
			t.Error(i, got, also, scope.Count(c.x))
		}
		holds(t, c.x, c.next)
	}
}

// P7.1, P6: numbers of 64 bits, and those behind the last one.
func TestNumbers(t *testing.T) {
	x := fun("x", fun("y", fun("z", of(term.Seq, "", v("x"), of(term.Seq, "", v("y"), v("z"))))))
	for _, c := range []struct {
		next  int
		names []string
		also  int
	}{
		{-3, []string{"-3", "-2", "-1"}, 0},
		{-2, []string{"-2", "-1", "0"}, 1},
		{-1, []string{"-1", "0", "1"}, 2},
		{-11, []string{"-11", "-10", "-9"}, -8},
		{98, []string{"98", "99", "100"}, 101},
		{math.MaxInt32, []string{"2147483647", "2147483648", "2147483649"}, math.MaxInt32 + 3},
		{math.MaxUint32, []string{"4294967295", "4294967296", "4294967297"}, math.MaxUint32 + 3},
		{math.MinInt, []string{"-9223372036854775808", "-9223372036854775807", "-9223372036854775806"}, math.MinInt + 3},
		{math.MaxInt - 2, []string{"9223372036854775805", "9223372036854775806", "9223372036854775807"}, math.MinInt},
		{math.MaxInt - 1, []string{"9223372036854775806", "9223372036854775807", "-9223372036854775808"}, math.MinInt + 1},
		{math.MaxInt, []string{"9223372036854775807", "-9223372036854775808", "-9223372036854775807"}, math.MinInt + 2},
	} {
		a, b, d := c.names[0], c.names[1], c.names[2]
		want := fun(a, fun(b, fun(d, of(term.Seq, "", v(a), of(term.Seq, "", v(b), v(d))))))
		got, also := scope.Rename(x, c.next)
		if !term.Same(got, want) || also != c.also {
			t.Error(c.next, got, also)
		}
		holds(t, x, c.next)
		if got, also := scope.Rename(v("x"), c.next); !term.Same(got, v("x")) || also != c.next {
			t.Error(c.next, got, also)
		}
	}
}

// P7.1, P1: all terms of few parts, most of which are not right, against the model.
func TestAllSmall(t *testing.T) {
	some := []term.Term{v("x"), v("y"), fun("x", v("")), of(term.Let, "x"), of(term.Try, "y"), of(term.Seq, "")}
	for size := 1; size <= 5; size++ {
		for _, x := range allOf(size, some, fitsAny) {
			holds(t, x, size-3)
		}
	}
	odd := append(heads(), of(term.Num, "x"), of(term.Seq, "x"), of(term.Op, "x"), of(0, "x"), of(14, "x"), of(-3, "x"), of(1<<32+2, "x"), of(1<<32+3, "x"), v(""), fun("", v("")), v("1"), fun("1", v("")), term.Term{Kind: term.Var, Name: "x", N: 5}, term.Term{Kind: term.Try, Name: "x", N: -5})
	for size := 1; size <= 3; size++ {
		for _, x := range allOf(size, odd, fitsAny) {
			holds(t, x, 1)
			holds(t, fun("x", x), 1)
			holds(t, of(term.Let, "x", x, x), 1)
		}
	}
}

// P7.1: each Kind, with each number of Kids, in each Kid of a binder; what is no name stays as it is.
func TestKinds(t *testing.T) {
	x := fun("x", v("x"))
	for _, h := range append(heads(), of(0, "x"), of(14, "x"), of(259, "x"), of(math.MinInt, "x"), of(math.MaxInt, "x")) {
		h.N = 77
		for n := range 6 {
			h.Kids = slices.Repeat([]term.Term{v("x"), x}, 3)[:n]
			holds(t, h, 1)
			for _, binder := range []int{term.Fun, term.Let, term.Try} {
				for m := range 5 {
					outer := of(binder, "x", slices.Repeat([]term.Term{h}, m)...)
					holds(t, outer, 1)
					holds(t, of(term.Seq, "", outer, v("x")), 1)
					holds(t, fun("x", of(term.Seq, "", outer, v("x"))), 1)
				}
			}
		}
	}
}

// P7.1: great terms, and numbers of several lengths.
func TestSamples(t *testing.T) {
	for i, x := range samples() {
		if !term.Right(x) {
			t.Fatal(i, "a sample is not right")
		}
		for _, next := range []int{1, -100, math.MaxInt - 50} {
			holds(t, x, next)
		}
	}
}

// P7.3: what is renamed has the same size, depth, free names, kinds; no two binders are alike; it stays so.
func TestFollows(t *testing.T) {
	some := []term.Term{num(1), v("x"), v("y"), fun("x", v("")), fun("y", v("")), of(term.Let, "x"), of(term.Try, "x"), of(term.Get, ""), of(term.Op, "-")}
	all := samples()
	for size := 1; size <= 5; size++ {
		all = append(all, allOf(size, some, fitsRight)...)
	}
	for _, x := range all {
		if !term.Right(x) {
			t.Fatal("not right", x)
		}
		for _, next := range []int{0, 1, 7, 1 << 40} {
			follows(t, x, next)
		}
	}
}

func follows(t *testing.T, x term.Term, next int) {
	t.Helper()
	u, also := scope.Rename(x, next)
	if term.Size(u) != term.Size(x) || term.Depth(u) != term.Depth(x) || !slices.Equal(term.Free(u), term.Free(x)) || scope.Count(u) != scope.Count(x) || also != next+scope.Count(x) {
		t.Fatal(x, u)
	}
	var was, is []term.Term
	each(&x, func(y *term.Term) { was = append(was, *y) })
	each(&u, func(y *term.Term) { is = append(is, *y) })
	seen := map[string]bool{}
	for i, y := range is {
		if y.Kind != was[i].Kind || y.N != was[i].N || len(y.Kids) != len(was[i].Kids) {
			t.Fatal(x, u)
		}
		if modelBinder(y) {
			if y.Name != strconv.Itoa(next+len(seen)) || seen[y.Name] {
				t.Fatal(x, u, y.Name)
			}
			seen[y.Name] = true
		}
	}
	again, behind := scope.Rename(u, next)
	if !term.Same(again, u) || behind != also {
		t.Fatal(x, u, again)
	}
}

// P3: what is handed in stays as it is, and so does what stands behind its Kids; what is told is memory of its own.
func TestMemory(t *testing.T) {
	shared := []term.Term{fun("x", of(term.App, "", v("x"), v("y"))), v("x")}
	both := of(term.Let, "x", of(term.Seq, "", shared...), of(term.Seq, "", shared...))
	for _, x := range append(samples(), both, of(term.Fun, "x"), of(term.Var, "x", v("x"), v("x"))) {
		given := copied(x)
		u, _ := scope.Rename(given, 1)
		scope.Count(given)
		if !term.Same(given, x) || !spared(given) {
			t.Fatal("what was handed in is another", x)
		}
		want := copied(u)
		each(&u, func(y *term.Term) { _ = append(y.Kids, v("more")) })
		if !term.Same(u, want) || !term.Same(given, x) || !spared(given) {
			t.Fatal("lists share what is behind them", x)
		}
		names := 0
		each(&u, func(y *term.Term) {
			if y.Name == "seen" {
				t.Fatal("two lists of an answer share memory", x)
			}
			y.Name = "seen"
			names++
		})
		if names != term.Size(x) || !term.Same(given, x) || !spared(given) {
			t.Fatal("the answer shares memory with what was handed in", x)
		}
	}
	u, _ := scope.Rename(both, 1)
	if u.Kids[0].Kids[0].Name != "2" || u.Kids[1].Kids[0].Name != "3" || u.Kids[0].Kids[1].Name != "x" || u.Kids[1].Kids[1].Name != "1" || shared[0].Name != "x" {
		t.Error(u, shared)
	}
}

// P4: what is told hangs on the arguments only.
func TestAgain(t *testing.T) {
	all := samples()
	var first []term.Term
	for _, x := range all {
		u, _ := scope.Rename(x, 5)
		first = append(first, u)
	}
	for i := len(all) - 1; i >= 0; i-- {
		if u, _ := scope.Rename(all[i], 5); !term.Same(u, first[i]) {
			t.Error(i)
		}
	}
}
