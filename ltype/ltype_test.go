package ltype_test

import (
	"math"
	"slices"
	"testing"

	"chancel/atom"
	"chancel/ltype"
	"chancel/shape"
)

var names = []string{"Lo", "Hi"}

// P13.1: what is right, and the ways in which it is not.
func TestRight(t *testing.T) {
	for i, c := range []struct {
		t    ltype.Type
		want bool
	}{
		{number(0), true}, {number(-9), true}, {number(math.MaxInt), true}, {number(math.MinInt), true},
		{cell(0, 0), true}, {cell(5, -1), true}, {cell(math.MinInt, math.MaxInt), true},
		{arrow(0, 0, 0, number(0), number(0)), true}, {arrow(1, -2, 3, cell(1, 2), arrow(9, 9, 9, number(1), cell(0, -7))), true},
		{with(number(1), []ltype.Type{}...), true}, {ltype.Type{Kind: 1, Kids: []ltype.Type{}}, true}, {ltype.Type{Kind: 2, Kids: []ltype.Type{}}, true},
		{ltype.Type{}, false}, {ltype.Type{L: 1}, false}, {ltype.Type{Kind: shape.Hole}, false}, {ltype.Type{Kind: shape.Hole, L: 1}, false}, {ltype.Type{Kind: 5}, false}, {ltype.Type{Kind: -1}, false}, {ltype.Type{Kind: math.MinInt}, false}, {ltype.Type{Kind: math.MaxInt}, false},
		{ltype.Type{Kind: 1, C: 1}, false}, {ltype.Type{Kind: 1, C: -1}, false}, {ltype.Type{Kind: 1, PC: 1}, false}, {ltype.Type{Kind: 1, PC: -1}, false}, {ltype.Type{Kind: 1, X: 1}, false}, {ltype.Type{Kind: 1, X: -1}, false}, {ltype.Type{Kind: 1, C: math.MinInt}, false},
		{ltype.Type{Kind: 2, PC: 1}, false}, {ltype.Type{Kind: 2, PC: -1}, false}, {ltype.Type{Kind: 2, X: 1}, false}, {ltype.Type{Kind: 2, X: -1}, false},
		{with(number(1), number(1)), false}, {with(number(1), number(1), number(2)), false}, {with(cell(1, 2), number(1)), false}, {with(cell(1, 2), number(1), number(2)), false}, {with(number(1), ltype.Type{}), false},
		{arrow(1, 2, 3), false}, {arrow(1, 2, 3, number(1)), false}, {arrow(1, 2, 3, number(1), number(1), number(1)), false},
		{ltype.Type{Kind: 3, C: 1, Kids: []ltype.Type{number(1), number(1)}}, false}, {ltype.Type{Kind: 3, C: -1, Kids: []ltype.Type{number(1), number(1)}}, false},
		{ltype.Type{Kind: shape.Hole, Kids: []ltype.Type{number(1), number(1)}}, false},
		{arrow(1, 2, 3, ltype.Type{}, number(1)), false}, {arrow(1, 2, 3, number(1), ltype.Type{}), false}, {arrow(1, 2, 3, number(1), arrow(1, 2, 3, number(1), ltype.Type{Kind: 1, X: 1})), false}, {arrow(1, 2, 3, arrow(1, 2, 3, arrow(1, 2, 3), number(1)), number(1)), false},
	} {
		if ltype.Right(c.t) != c.want || (ltype.Text(names, c.t) != "?") != c.want || (len(ltype.Places(c.t)) > 0) != c.want || (ltype.Shape(c.t).Kind != 0) != c.want {
			t.Error(i, c.t)
		}
		if !ltype.Same(c.t, c.t) {
			t.Error(i, "not the same as itself")
		}
	}
}

// P13.1: what is the same is that in all fields, whatever Kind has them, and in all Kids.
func TestSame(t *testing.T) {
	base := ltype.Type{Kind: 3, L: 1, C: 2, PC: 3, X: 4, Kids: []ltype.Type{number(5), cell(6, 7)}}
	for i, turn := range []func(x *ltype.Type){
		func(x *ltype.Type) { x.Kind = 2 },
		func(x *ltype.Type) { x.L = 2 },
		func(x *ltype.Type) { x.C = 1 },
		func(x *ltype.Type) { x.PC = 4 },
		func(x *ltype.Type) { x.X = 3 },
		func(x *ltype.Type) { x.L = -1 },
		func(x *ltype.Type) { x.Kids = nil },
		func(x *ltype.Type) { x.Kids = x.Kids[:1] },
		func(x *ltype.Type) { x.Kids = append(x.Kids, number(5)) },
		func(x *ltype.Type) { x.Kids[0], x.Kids[1] = x.Kids[1], x.Kids[0] },
		func(x *ltype.Type) { x.Kids[0].L = 6 },
		func(x *ltype.Type) { x.Kids[0].X = 1 },
		func(x *ltype.Type) { x.Kids[1].C = 6 },
		func(x *ltype.Type) { x.Kids[1].Kids = []ltype.Type{{}} },
	} {
		other := base
		other.Kids = slices.Clone(base.Kids)
		turn(&other)
		if ltype.Same(base, other) || ltype.Same(other, base) {
			t.Error(i, other)
		}
		above := func(x ltype.Type) ltype.Type { return arrow(1, 2, 3, number(1), arrow(1, 2, 3, x, number(2))) }
		if ltype.Same(above(base), above(other)) || !ltype.Same(above(other), above(other)) {
			t.Error(i, "as a Kid")
		}
	}
	if !ltype.Same(ltype.Type{Kind: 1, Kids: []ltype.Type{}}, ltype.Type{Kind: 1}) || !ltype.Same(ltype.Type{}, ltype.Type{}) {
		t.Error("no Kids, nil or not, are the same")
	}
}

// P13.2, P13.4: labels in the order of places, and the number behind them.
func TestFresh(t *testing.T) {
	for i, c := range []struct {
		s     shape.Shape
		next  int
		text  string
		after int
	}{
		{in, 0, "int@'0", 1},
		{in, 41, "int@'41", 42},
		{ref, 0, "ref@'0['1]", 2},
		{hole(0), 3, "int@'3", 4},
		{hole(math.MaxInt), 3, "int@'3", 4},
		{fun(in, in), 0, "(int@'3 -'1,'2-> int@'4)@'0", 5},
		{fun(hole(2), hole(2)), 7, "(int@'10 -'8,'9-> int@'11)@'7", 12},
		{fun(ref, in), 0, "(ref@'3['4] -'1,'2-> int@'5)@'0", 6},
		{fun(in, ref), 0, "(int@'3 -'1,'2-> ref@'4['5])@'0", 6},
		{fun(fun(in, ref), fun(ref, hole(1))), 9, "((int@'15 -'13,'14-> ref@'16['17])@'12 -'10,'11-> (ref@'21['22] -'19,'20-> int@'23)@'18)@'9", 24},
		{shape.Shape{}, 5, "?", 5},
		{shape.Shape{Kind: 5}, 5, "?", 5},
		{shape.Shape{Kind: shape.Fun}, 5, "?", 5},
		{shape.Shape{Kind: shape.Int, N: 1}, 5, "?", 5},
		{shape.Shape{Kind: shape.Hole, N: -1}, 5, "?", 5},
		{fun(in, shape.Shape{}), 0, "?", 0},
		{fun(fun(in, hole(-1)), in), 0, "?", 0},
		{fun(in, in), -1, "?", -1},
		{in, math.MinInt, "?", math.MinInt},
		{shape.Shape{}, -7, "?", -7},
		{in, math.MaxInt - 1, "int@'9223372036854775806", math.MaxInt},
		{fun(in, in), math.MaxInt - 5, "(int@'9223372036854775805 -'9223372036854775803,'9223372036854775804-> int@'9223372036854775806)@'9223372036854775802", math.MaxInt},
		{in, math.MaxInt, "int@'9223372036854775807", math.MinInt},
		{ref, math.MaxInt, "ref@'9223372036854775807[?]", math.MinInt + 1},
	} {
		got, after := ltype.Fresh(c.s, c.next)
		if ltype.Text(names, got) != c.text || after != c.after {
			t.Error(i, ltype.Text(names, got), after)
		}
		if c.text == "?" && !modelSame(got, ltype.Type{}) {
			t.Error(i, got)
		}
		if c.text != "?" && !shape.Same(ltype.Shape(got), shape.Ground(c.s)) {
			t.Error(i, ltype.Shape(got))
		}
	}
}

// P13.2: of a right type its shape and its labels; of another nothing.
func TestShapeAndPlaces(t *testing.T) {
	for i, c := range []struct {
		t      ltype.Type
		shape  string
		places []atom.Atom
	}{
		{number(4), "int", []atom.Atom{4}},
		{number(-1), "int", []atom.Atom{-1}},
		{cell(4, -2), "ref", []atom.Atom{4, -2}},
		{cell(0, 0), "ref", []atom.Atom{0, 0}},
		{arrow(1, 2, 3, number(4), number(5)), "(int -> int)", []atom.Atom{1, 2, 3, 4, 5}},
		{arrow(5, 4, 3, number(2), number(1)), "(int -> int)", []atom.Atom{5, 4, 3, 2, 1}},
		{arrow(9, 8, 7, cell(6, 5), arrow(-4, -3, -2, arrow(3, 3, 3, number(1), cell(0, 2)), number(-1))), "(ref -> ((int -> ref) -> int))", []atom.Atom{9, 8, 7, 6, 5, -4, -3, -2, 3, 3, 3, 1, 0, 2, -1}},
		{ltype.Type{}, "?", nil},
		{ltype.Type{Kind: 4, L: 1}, "?", nil},
		{ltype.Type{Kind: 1, L: 1, C: 1}, "?", nil},
		{arrow(1, 2, 3, number(4)), "?", nil},
		{arrow(1, 2, 3, number(4), ltype.Type{Kind: 2, PC: 1}), "?", nil},
		{arrow(1, 2, 3, ltype.Type{}, number(4)), "?", nil},
	} {
		if s := ltype.Shape(c.t); shape.Text(s) != c.shape || c.shape == "?" && !shape.Same(s, shape.Shape{}) {
			t.Error(i, s)
		}
		if l := ltype.Places(c.t); !slices.Equal(l, c.places) {
			t.Error(i, l)
		}
	}
}

// P13.3: what has to hold, in order; nothing is left out, though it be asked twice, or of itself.
func TestSub(t *testing.T) {
	for i, c := range []struct {
		a, b ltype.Type
		want string
	}{
		{number(1), number(2), "'1 <= '2"},
		{number(1), number(1), "'1 <= '1"},
		{number(-2), number(-1), "Hi <= Lo"},
		{number(-3), number(7), "? <= '7"},
		{cell(1, 2), cell(3, 4), "'1 <= '3, '2 <= '4, '4 <= '2"},
		{cell(1, 1), cell(1, 1), "'1 <= '1, '1 <= '1, '1 <= '1"},
		{arrow(1, 2, 3, number(4), number(5)), arrow(11, 12, 13, number(14), number(15)), "'1 <= '11, '12 <= '2, '3 <= '13, '14 <= '4, '5 <= '15"},
		{arrow(1, 2, 3, cell(4, 5), cell(6, 7)), arrow(11, 12, 13, cell(14, 15), cell(16, 17)), "'1 <= '11, '12 <= '2, '3 <= '13, '14 <= '4, '15 <= '5, '5 <= '15, '6 <= '16, '7 <= '17, '17 <= '7"},
		{arrow(1, 2, 3, arrow(4, 5, 6, number(7), number(8)), number(9)), arrow(11, 12, 13, arrow(14, 15, 16, number(17), number(18)), number(19)), "'1 <= '11, '12 <= '2, '3 <= '13, '14 <= '4, '5 <= '15, '16 <= '6, '7 <= '17, '18 <= '8, '9 <= '19"},
		{arrow(1, 2, 3, number(4), arrow(5, 6, 7, number(8), number(9))), arrow(11, 12, 13, number(14), arrow(15, 16, 17, number(18), number(19))), "'1 <= '11, '12 <= '2, '3 <= '13, '14 <= '4, '5 <= '15, '16 <= '6, '7 <= '17, '18 <= '8, '9 <= '19"},
	} {
		got, ok := ltype.Sub(c.a, c.b)
		if !ok || atom.Texts(names, got) != c.want {
			t.Error(i, atom.Texts(names, got), ok)
		}
	}
	unlike := []ltype.Type{
		{}, number(1), cell(1, 2), arrow(1, 2, 3, number(4), number(5)), arrow(1, 2, 3, cell(4, 5), number(6)), arrow(1, 2, 3, number(4), cell(5, 6)),
		arrow(1, 2, 3, arrow(1, 2, 3, number(4), number(5)), number(4)), arrow(1, 2, 3, number(4), arrow(1, 2, 3, number(4), number(5))),
		{Kind: 1, C: 1}, {Kind: 2, X: 1}, {Kind: 4}, arrow(1, 2, 3), arrow(1, 2, 3, number(4), ltype.Type{}), {Kind: 3, C: 1, Kids: []ltype.Type{number(1), number(2)}}, with(number(1), number(2)),
	}
	for i, a := range unlike {
		for j, b := range unlike {
			if i == j && ltype.Right(a) {
				continue
			}
			if got, ok := ltype.Sub(a, b); ok || len(got) != 0 {
				t.Error(i, j, got)
			}
		}
	}
}

// P13.3: of any type L alone is turned.
func TestOuter(t *testing.T) {
	for i, c := range []ltype.Type{
		number(1), cell(2, 3), arrow(1, 2, 3, number(4), cell(5, 6)), {}, {Kind: 4, L: 1, C: 2, PC: 3, X: 4, Kids: []ltype.Type{number(7)}}, {Kind: 1, C: 3, Kids: []ltype.Type{{}, {}, cell(1, 1)}}, arrow(5, 5, 5), {Kind: math.MinInt},
	} {
		for _, l := range []atom.Atom{0, 1, 9, -1, -2, math.MaxInt, math.MinInt} {
			want := c
			want.L = l
			if got := ltype.Outer(c, l); !modelSame(got, want) {
				t.Error(i, l, got)
			}
		}
	}
}

// P13.3: labels are renamed where their Kind has them, at their first place in from, if to is that long.
func TestRename(t *testing.T) {
	every := func(kind int, kids ...ltype.Type) ltype.Type {
		return ltype.Type{Kind: kind, L: 1, C: 1, PC: 1, X: 1, Kids: kids}
	}
	row := func(l ...atom.Atom) []atom.Atom { return l }
	for i, c := range []struct {
		t        ltype.Type
		from, to []atom.Atom
		want     ltype.Type
	}{
		{number(1), nil, nil, number(1)},
		{number(1), row(1), row(5), number(5)},
		{number(1), row(2), row(5), number(1)},
		{number(1), row(1), nil, number(1)},
		{number(1), nil, row(5), number(1)},
		{number(1), row(1, 1), row(5, 6), number(5)},
		{number(1), row(2, 1, 1), row(5), number(1)},
		{number(1), row(2, 1), row(5, 6, 7), number(6)},
		{number(1), row(1, 5), row(5, 6), number(5)},
		{number(-1), row(-1), row(3), number(3)},
		{number(3), row(3), row(-1), number(-1)},
		{number(0), row(0), row(3), number(3)},
		{cell(1, 2), row(1, 2), row(2, 1), cell(2, 1)},
		{cell(0, 0), row(0), row(3), cell(3, 3)},
		{arrow(1, 2, 3, number(3), cell(2, 1)), row(3, 1, 2), row(-1, -2, -3), arrow(-2, -3, -1, number(-1), cell(-3, -2))},
		{arrow(0, 0, 0, number(0), number(0)), row(0), row(3), arrow(3, 3, 3, number(3), number(3))},
		{every(1), row(1), row(5), ltype.Type{Kind: 1, L: 5, C: 1, PC: 1, X: 1}},
		{every(2), row(1), row(5), ltype.Type{Kind: 2, L: 5, C: 5, PC: 1, X: 1}},
		{every(3), row(1), row(5), ltype.Type{Kind: 3, L: 5, C: 1, PC: 5, X: 5}},
		{every(0), row(1), row(5), ltype.Type{Kind: 0, L: 5, C: 1, PC: 1, X: 1}},
		{every(4), row(1), row(5), ltype.Type{Kind: 4, L: 5, C: 1, PC: 1, X: 1}},
		{every(-3, every(2), every(1, every(3))), row(1), row(5), ltype.Type{Kind: -3, L: 5, C: 1, PC: 1, X: 1, Kids: []ltype.Type{{Kind: 2, L: 5, C: 5, PC: 1, X: 1}, {Kind: 1, L: 5, C: 1, PC: 1, X: 1, Kids: []ltype.Type{{Kind: 3, L: 5, C: 1, PC: 5, X: 5}}}}}},
	} {
		if got := ltype.Rename(c.t, c.from, c.to); !modelSame(got, c.want) {
			t.Error(i, got)
		}
	}
}

// P13.4: a label by its name; one that has none as ?.
func TestText(t *testing.T) {
	for i, c := range []struct {
		names []string
		t     ltype.Type
		want  string
	}{
		{names, number(3), "int@'3"}, {names, number(-1), "int@Lo"}, {names, number(-2), "int@Hi"}, {names, number(-3), "int@?"}, {nil, number(-1), "int@?"}, {names, number(math.MinInt), "int@?"}, {[]string{""}, number(-1), "int@"},
		{names, cell(3, 4), "ref@'3['4]"}, {names, cell(-2, -1), "ref@Hi[Lo]"}, {nil, cell(-2, 0), "ref@?['0]"},
		{names, arrow(1, -1, -2, number(2), number(3)), "(int@'2 -Lo,Hi-> int@'3)@'1"},
		{names, arrow(-2, 0, 1, cell(-1, 5), arrow(7, 8, 9, number(10), cell(11, 12))), "(ref@Lo['5] -'0,'1-> (int@'10 -'8,'9-> ref@'11['12])@'7)@Hi"},
		{names, arrow(-1, -2, -3, arrow(-4, 1, 2, number(3), number(4)), number(5)), "((int@'3 -'1,'2-> int@'4)@? -Hi,?-> int@'5)@Lo"},
		{names, ltype.Type{}, "?"}, {names, ltype.Type{Kind: 4}, "?"}, {names, arrow(1, 2, 3, number(1), ltype.Type{Kind: 1, PC: 1}), "?"}, {[]string{"int"}, arrow(-1, -1, -1), "?"},
	} {
		if got := ltype.Text(c.names, c.t); got != c.want {
			t.Error(i, got)
		}
	}
}
