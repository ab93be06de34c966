package scheme_test

import (
	"math"
	"slices"
	"testing"

	"chancel/atom"
	"chancel/lat"
	"chancel/ltype"
	"chancel/scheme"
	"chancel/shape"
)

var (
	two  = lat.Lat{Names: []string{"Lo", "Hi"}, Up: []uint64{3, 2}}
	four = lat.Lat{Names: []string{"L", "A", "B", "H"}, Up: []uint64{15, 10, 12, 8}}
)

const (
	lo, hi  = atom.Atom(-1), atom.Atom(-2)
	l, a, b = atom.Atom(-1), atom.Atom(-2), atom.Atom(-3)
	h       = atom.Atom(-4)
)

// P14.1: what is asked of a type's labels, as each of them stands in it.
func TestMake(t *testing.T) {
	id := arrow(10, 11, 12, number(13), number(14))
	for i, c := range []struct {
		l    lat.Lat
		t    ltype.Type
		c    []atom.Pair
		want string
	}{
		{two, number(4), nil, "int@'0 | -"},
		{two, number(hi), nil, "int@'0 | Hi <= '0"},
		{two, number(lo), nil, "int@'0 | -"},
		{two, number(0), []atom.Pair{pair(hi, 0)}, "int@'0 | Hi <= '0"},
		{two, number(4), []atom.Pair{pair(hi, 4), pair(4, lo)}, "int@'0 | Hi <= '0"}, // no solution
		{two, number(4), []atom.Pair{pair(hi, lo), pair(5, lo), pair(hi, 5)}, "int@'0 | -"},
		{four, number(4), []atom.Pair{pair(a, 7), pair(7, 4), pair(b, 4)}, "int@'0 | H <= '0"},
		{four, number(4), []atom.Pair{pair(a, b), pair(b, 4), pair(7, 4)}, "int@'0 | B <= '0"}, // no way through a point
		{four, cell(4, 5), nil, "ref@'0['1] | -"},
		{four, cell(4, a), nil, "ref@'0['1] | A <= '1, '1 <= A"},
		{four, cell(l, l), nil, "ref@'0['1] | '1 <= L"},
		{four, cell(h, h), nil, "ref@'0['1] | H <= '0, H <= '1"},
		{four, cell(4, 4), nil, "ref@'0['1] | '1 <= '0"},
		{four, cell(4, 5), []atom.Pair{pair(4, 5)}, "ref@'0['1] | -"},
		{four, cell(4, 5), []atom.Pair{pair(5, 4)}, "ref@'0['1] | '1 <= '0"},
		{four, cell(4, 5), []atom.Pair{pair(5, 4), pair(b, 4)}, "ref@'0['1] | B <= '0, '1 <= '0"},
		{four, cell(4, 5), []atom.Pair{pair(5, 4), pair(5, b), pair(b, 4)}, "ref@'0['1] | B <= '0, '1 <= B"}, // what points ask is not asked again
		{two, id, nil, "(int@'3 -'1,'2-> int@'4)@'0 | -"},
		{two, id, []atom.Pair{pair(13, 14)}, "(int@'3 -'1,'2-> int@'4)@'0 | '3 <= '4"},
		{two, id, []atom.Pair{pair(14, 13)}, "(int@'3 -'1,'2-> int@'4)@'0 | -"},
		{two, id, []atom.Pair{pair(11, 12), pair(11, 10), pair(13, 20), pair(20, 14), pair(20, 12)}, "(int@'3 -'1,'2-> int@'4)@'0 | '1 <= '0, '1 <= '2, '3 <= '2, '3 <= '4"},
		{two, arrow(lo, lo, lo, number(lo), number(lo)), nil, "(int@'3 -'1,'2-> int@'4)@'0 | '1 <= Lo, '3 <= Lo"},
		{two, arrow(hi, hi, hi, number(hi), number(hi)), nil, "(int@'3 -'1,'2-> int@'4)@'0 | Hi <= '0, Hi <= '2, Hi <= '4"},
		{two, arrow(7, 7, 7, number(7), number(7)), nil, "(int@'3 -'1,'2-> int@'4)@'0 | '1 <= '0, '1 <= '2, '1 <= '4, '3 <= '0, '3 <= '2, '3 <= '4"},
		{two, arrow(0, 1, 2, arrow(3, 4, 5, number(6), number(7)), number(8)), []atom.Pair{pair(3, 8), pair(5, 2), pair(7, 8), pair(1, 4), pair(1, 6)}, "((int@'6 -'4,'5-> int@'7)@'3 -'1,'2-> int@'8)@'0 | '1 <= '4, '1 <= '6, '3 <= '8, '5 <= '2, '7 <= '8"},
		{two, arrow(0, 1, 2, arrow(3, 4, 5, number(hi), number(lo)), cell(9, 5)), nil, "((int@'6 -'4,'5-> int@'7)@'3 -'1,'2-> ref@'8['9])@'0 | Hi <= '6, '5 <= '9, '7 <= Lo"},
		{two, arrow(0, 1, 2, cell(5, 6), cell(7, 6)), nil, "(ref@'3['4] -'1,'2-> ref@'5['6])@'0 | '4 <= '6, '6 <= '4"},
		{chain(1), arrow(0, -1, 2, cell(-1, -1), cell(7, 6)), []atom.Pair{pair(-1, 0), pair(7, -1)}, "(ref@'3['4] -'1,'2-> ref@'5['6])@'0 | -"},
	} {
		got := scheme.Make(c.l, c.t, c.c)
		if text := scheme.Text(c.l.Names, got); text != c.want || !shape.Same(got.S, ltype.Shape(c.t)) {
			t.Error(i, text)
		}
	}
}

// P14.1: of what is not right, or has points that the lattice has not, nothing is told.
func TestMakeNothing(t *testing.T) {
	good := arrow(hi, 1, 2, cell(3, lo), number(5))
	ask := []atom.Pair{pair(hi, 5)}
	if text := scheme.Text(two.Names, scheme.Make(two, good, ask)); text != "(ref@'3['4] -'1,'2-> int@'5)@'0 | Hi <= '0, Hi <= '5, '4 <= Lo" {
		t.Error(text)
	}
	nothing := func(name any, l lat.Lat, x ltype.Type, c []atom.Pair) {
		t.Helper()
		if s := scheme.Make(l, x, c); s.S.Kind != 0 || s.S.N != 0 || len(s.S.Kids) != 0 || len(s.Con) != 0 {
			t.Error(name, s)
		}
	}
	for i, l := range wrong() {
		nothing(i, l, good, nil)
		nothing(i, l, number(1), nil)
		nothing(i, l, ltype.Type{}, nil)
	}
	for i, x := range []ltype.Type{
		{}, {L: 1}, {Kind: 4}, {Kind: -1}, {Kind: 5, L: hi}, {Kind: 1, C: 1}, {Kind: 1, PC: lo}, {Kind: 1, X: 1}, {Kind: 2, PC: 1}, {Kind: 2, X: lo},
		{Kind: 1, Kids: []ltype.Type{number(1)}}, arrow(1, 2, 3), arrow(1, 2, 3, number(4)), arrow(1, 2, 3, number(4), number(5), number(6)),
		{Kind: 3, C: 1, Kids: []ltype.Type{number(4), number(5)}}, arrow(1, 2, 3, number(4), ltype.Type{}), arrow(1, 2, 3, ltype.Type{Kind: 1, X: 1}, number(4)),
	} {
		nothing(i, two, x, ask)
	}
	for i, p := range []atom.Atom{-3, -4, -65, -1000, math.MinInt} {
		for j, x := range []ltype.Type{
			number(p), cell(p, 1), cell(1, p), arrow(p, 1, 2, number(3), number(4)), arrow(1, p, 2, number(3), number(4)), arrow(1, 2, p, number(3), number(4)),
			arrow(1, 2, 3, number(p), number(4)), arrow(1, 2, 3, number(4), number(p)), arrow(1, 2, 3, cell(4, p), number(4)),
		} {
			nothing([]int{i, j}, two, x, ask)
		}
		nothing(i, two, good, []atom.Pair{pair(p, 5)})
		nothing(i, two, good, []atom.Pair{pair(1, p)})
		nothing(i, two, good, []atom.Pair{pair(1, 2), pair(70, p)})
		nothing(i, two, good, []atom.Pair{pair(p, p)})
	}
}

// P14.1: which numbers the variables have does not matter, be they the lowest ones, the greatest ones, or all between two.
func TestMakeNumbers(t *testing.T) {
	const most = math.MaxInt
	for i, n := range [][]atom.Atom{
		{0, 1, 2, 3, 4, 5, 6, 7}, {7, 6, 5, 4, 3, 2, 1, 0}, {most, most - 1, most - 2, most - 3, most - 4, most - 5, most - 6, most - 7},
		{most, 0, most - 1, 1, most - 2, 2, most - 3, 3}, {6, 7, 8, 9, 10, 11, 12, 13}, {5, 6, 7, 8, 9, 10, 11, 12}, {0, 7, 14, 21, 28, 35, 42, 49}, {0, 6, 12, 18, 24, 30, 36, 42},
		{1, 3, 5, 7, 9, 11, 13, 15}, {0, 1, 2, 9, 10, 11, most, 20}, {most / 2, most/2 + 1, 0, 6, 5, 4, 1, most}, {3, 2, most, 1, 0, 10, 11, 12},
	} {
		x := arrow(n[0], n[1], n[2], cell(n[3], n[4]), number(n[5]))
		c := []atom.Pair{pair(n[3], n[6]), pair(n[6], n[5]), pair(n[7], n[6]), pair(n[4], n[7]), pair(hi, n[2]), pair(n[1], n[2])}
		if text := scheme.Text(two.Names, scheme.Make(two, x, c)); text != "(ref@'3['4] -'1,'2-> int@'5)@'0 | Hi <= '2, '3 <= '5, '4 <= '5" {
			t.Error(i, n, text)
		}
		c[4] = pair(n[1], n[2])
		c[5] = pair(n[5], n[2]) // what leads to '5 leads to '2
		if text := scheme.Text(two.Names, scheme.Make(two, x, c)); text != "(ref@'3['4] -'1,'2-> int@'5)@'0 | '1 <= '2, '3 <= '2, '3 <= '5, '4 <= '2, '4 <= '5" {
			t.Error(i, n, text)
		}
	}
}

// P14.2: instances, of numbers at the edges, and of what is not right.
func TestInst(t *testing.T) {
	const most = math.MaxInt
	s := scheme.Scheme{S: fun(ref, in), Con: []atom.Pair{pair(3, 5), pair(hi, 2), pair(0, lo), pair(99, 0)}}
	for i, c := range []struct {
		s     scheme.Scheme
		next  int
		text  string
		c     []atom.Pair
		after int
	}{
		{s, 0, "(ref@'3['4] -'1,'2-> int@'5)@'0", s.Con, 6},
		{s, 100, "(ref@'103['104] -'101,'102-> int@'105)@'100", []atom.Pair{pair(103, 105), pair(hi, 102), pair(100, lo), pair(199, 100)}, 106},
		{scheme.Scheme{S: fun(hole(4), hole(0))}, 1, "(int@'4 -'2,'3-> int@'5)@'1", nil, 6},
		{scheme.Scheme{S: in}, most - 1, "int@'9223372036854775806", nil, most},
		{scheme.Scheme{S: in, Con: []atom.Pair{pair(0, -64)}}, most - 1, "int@'9223372036854775806", []atom.Pair{pair(most-1, -64)}, most},
		{scheme.Scheme{S: in, Con: []atom.Pair{pair(1, 0)}}, most, "int@'9223372036854775807", []atom.Pair{pair(0, most)}, math.MinInt},
		{s, -1, "?", []atom.Pair{pair(2, 4), pair(hi, 1), pair(0, lo), pair(98, 0)}, -1},
		{s, math.MinInt, "?", []atom.Pair{pair(0, 0), pair(hi, 0), pair(0, lo), pair(0, 0)}, math.MinInt},
		{scheme.Scheme{}, 7, "?", nil, 7},
		{scheme.Scheme{Con: []atom.Pair{pair(3, hi)}}, 7, "?", []atom.Pair{pair(10, hi)}, 7},
		{scheme.Scheme{S: hole(-1)}, 7, "?", nil, 7},
		{scheme.Scheme{S: shape.Shape{Kind: 3, Kids: []shape.Shape{in}}}, 7, "?", nil, 7},
		{scheme.Scheme{S: fun(in, shape.Shape{Kind: 2, N: 1})}, 0, "?", nil, 0},
	} {
		x, got, after := scheme.Inst(c.s, c.next)
		if text := ltype.Text(two.Names, x); text != c.text || !slices.Equal(got, c.c) || after != c.after {
			t.Error(i, text, got, after)
		}
		if c.text == "?" && !ltype.Same(x, ltype.Type{}) {
			t.Error(i, x)
		}
	}
}

// P14.2: of two schemes one is as general as the other one, if it asks for nothing more.
func TestOrder(t *testing.T) {
	of := func(c ...atom.Pair) scheme.Scheme { return scheme.Scheme{S: fun(in, in), Con: c} }
	for i, c := range []struct {
		a, b scheme.Scheme
		want bool
	}{
		{of(), of(), true}, {of(), of(pair(3, 4)), true}, {of(pair(3, 4)), of(), false}, {of(pair(3, 4)), of(pair(3, 4)), true}, {of(pair(3, 4)), of(pair(4, 3)), false},
		{of(pair(3, 3)), of(), true}, {of(pair(a, a)), of(), true}, {of(pair(l, 3)), of(), true}, {of(pair(3, h)), of(), true}, {of(pair(a, h), pair(l, a), pair(l, h)), of(), true},
		{of(pair(a, b)), of(), false}, {of(pair(h, l)), of(), false}, {of(pair(a, b)), of(pair(a, b)), true}, {of(pair(a, b)), of(pair(a, 3), pair(3, b)), true}, {of(pair(a, b)), of(pair(a, h), pair(h, b)), false},
		{of(pair(3, 4)), of(pair(3, 7), pair(7, 8), pair(8, 4)), true}, {of(pair(3, 8), pair(7, 4)), of(pair(3, 7), pair(7, 8), pair(8, 4)), true}, {of(pair(3, 4)), of(pair(3, 7), pair(8, 4)), false},
		{of(pair(3, 4)), of(pair(3, a), pair(a, 4)), true}, {of(pair(3, 4)), of(pair(3, a), pair(b, 4)), false}, {of(pair(3, 4)), of(pair(3, a), pair(h, 4)), true}, {of(pair(3, 4)), of(pair(3, a), pair(3, b)), true}, {of(pair(3, 4)), of(pair(a, 4), pair(b, 4)), true}, {of(pair(3, 4)), of(pair(a, 4)), false},
		{of(pair(a, 4)), of(pair(a, 4)), true}, {of(pair(a, 4)), of(pair(h, 4)), true}, {of(pair(a, 4)), of(pair(b, 4)), false}, {of(pair(h, 4)), of(pair(a, 3), pair(b, 4), pair(3, 4)), true}, {of(pair(h, 4)), of(pair(a, 3), pair(b, 4)), false},
		{of(pair(4, b)), of(pair(4, b)), true}, {of(pair(4, b)), of(pair(4, l)), true}, {of(pair(4, b)), of(pair(4, a)), false}, {of(pair(4, l)), of(pair(4, 3), pair(3, a), pair(4, b)), true},
		{of(pair(3, 4), pair(4, 3)), of(pair(3, 4)), false}, {of(pair(4, 3), pair(3, 4)), of(pair(3, 4)), false}, {of(pair(3, 4), pair(4, 3)), of(pair(3, 4), pair(4, 3), pair(9, 3)), true},
		{of(pair(3, 4)), of(pair(h, 3), pair(3, l)), true}, {of(pair(4, 3)), of(pair(h, 3), pair(3, l)), true}, {of(pair(4, 5)), of(pair(h, 3), pair(3, l)), false}, {of(pair(3, l)), of(pair(h, 3), pair(3, l)), true}, {of(pair(4, 3)), of(pair(3, l), pair(h, 3), pair(4, l)), true},
		{of(pair(-5, 3)), of(pair(-5, 3)), false}, {of(pair(3, -5)), of(), false}, {of(pair(-5, -5)), of(), false}, {of(pair(3, 3)), of(pair(-5, 3)), false}, {of(), of(pair(-5, 3)), true}, {of(pair(3, 4)), of(pair(3, 4), pair(math.MinInt, 7)), false}, {of(pair(3, 4), pair(4, -9)), of(pair(3, 4)), false},
		{of(pair(math.MaxInt, 0)), of(pair(math.MaxInt, 5), pair(5, 0)), true},
		{scheme.Scheme{S: fun(in, ref)}, of(), false}, {scheme.Scheme{S: fun(ref, in)}, of(), false}, {scheme.Scheme{S: in}, of(), false}, {scheme.Scheme{}, of(), false}, {of(), scheme.Scheme{}, false},
		{scheme.Scheme{S: hole(1)}, scheme.Scheme{S: hole(1)}, true}, {scheme.Scheme{S: hole(1)}, scheme.Scheme{S: hole(2)}, false}, {scheme.Scheme{S: hole(1)}, scheme.Scheme{S: in}, false},
		{scheme.Scheme{}, scheme.Scheme{}, true}, {scheme.Scheme{Con: []atom.Pair{pair(3, 4)}}, scheme.Scheme{}, false},
	} {
		if scheme.Order(four, c.a, c.b) != c.want {
			t.Error(i, c.a, c.b)
		}
	}
}

// P14.2: over what is no lattice nothing follows, but nothing need follow where nothing is asked.
func TestOrderWrong(t *testing.T) {
	none, some, other := scheme.Scheme{S: in}, scheme.Scheme{S: in, Con: []atom.Pair{pair(0, 0)}}, scheme.Scheme{S: ref}
	for i, l := range wrong() {
		if !scheme.Order(l, none, none) || !scheme.Order(l, none, some) || scheme.Order(l, some, some) || scheme.Order(l, some, none) || scheme.Order(l, none, other) {
			t.Error(i)
		}
	}
}

// P14.2: what is the same is that Pair by Pair.
func TestSame(t *testing.T) {
	s := scheme.Scheme{S: fun(ref, in), Con: []atom.Pair{pair(3, 4), pair(hi, 0)}}
	with := func(s shape.Shape, c ...atom.Pair) scheme.Scheme { return scheme.Scheme{S: s, Con: c} }
	for i, c := range []struct {
		a, b scheme.Scheme
		want bool
	}{
		{s, s, true}, {s, with(fun(ref, in), pair(3, 4), pair(hi, 0)), true}, {scheme.Scheme{}, scheme.Scheme{}, true}, {with(in), scheme.Scheme{S: in, Con: []atom.Pair{}}, true},
		{s, with(fun(ref, in), pair(hi, 0), pair(3, 4)), false}, {s, with(fun(ref, in), pair(3, 4)), false}, {s, with(fun(ref, in), pair(3, 4), pair(hi, 0), pair(hi, 0)), false}, {s, with(fun(ref, in), pair(3, 4), pair(hi, 1)), false}, {s, with(fun(ref, in), pair(4, 3), pair(hi, 0)), false}, {s, with(fun(ref, in)), false},
		{s, with(fun(in, ref), pair(3, 4), pair(hi, 0)), false}, {s, with(ref, pair(3, 4), pair(hi, 0)), false}, {with(in), with(ref), false}, {with(in), with(shape.Shape{}), false},
		{with(hole(1)), with(hole(1)), true}, {with(hole(1)), with(hole(0)), false}, {with(shape.Shape{Kind: 1, N: 1}), with(in), false}, {with(shape.Shape{Kind: 1, N: 1}), with(shape.Shape{Kind: 1, N: 1}), true},
		{with(in, pair(0, 0)), with(in), false}, {with(in), with(in, pair(0, 0)), false},
	} {
		if scheme.Same(c.a, c.b) != c.want || scheme.Same(c.b, c.a) != c.want {
			t.Error(i)
		}
	}
}

// P14.2: schemes as texts.
func TestText(t *testing.T) {
	for i, c := range []struct {
		names []string
		s     scheme.Scheme
		want  string
	}{
		{two.Names, scheme.Scheme{S: in, Con: []atom.Pair{pair(hi, 0)}}, "int@'0 | Hi <= '0"},
		{two.Names, scheme.Scheme{S: in}, "int@'0 | -"},
		{two.Names, scheme.Scheme{S: ref, Con: []atom.Pair{pair(1, 0), pair(0, lo), pair(1, 0), pair(7, 7)}}, "ref@'0['1] | '1 <= '0, '0 <= Lo, '1 <= '0, '7 <= '7"},
		{two.Names, scheme.Scheme{S: fun(fun(ref, hole(9)), in), Con: []atom.Pair{pair(3, -3)}}, "((ref@'6['7] -'4,'5-> int@'8)@'3 -'1,'2-> int@'9)@'0 | '3 <= ?"},
		{nil, scheme.Scheme{S: hole(0), Con: []atom.Pair{pair(hi, math.MaxInt), pair(math.MinInt, 0)}}, "int@'0 | ? <= '9223372036854775807, ? <= '0"},
		{[]string{"", "x y"}, scheme.Scheme{S: in, Con: []atom.Pair{pair(lo, hi)}}, "int@'0 |  <= x y"},
		{two.Names, scheme.Scheme{}, "? | -"},
		{two.Names, scheme.Scheme{Con: []atom.Pair{pair(hi, 0)}}, "? | Hi <= '0"},
		{two.Names, scheme.Scheme{S: shape.Shape{Kind: 3, Kids: []shape.Shape{in, {}}}}, "? | -"},
	} {
		if got := scheme.Text(c.names, c.s); got != c.want {
			t.Error(i, got)
		}
	}
}
