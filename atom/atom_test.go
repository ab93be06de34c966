package atom_test

import (
	"math"
	"slices"
	"testing"

	"chancel/atom"
)

// P10.1: variables and points, to the edges of 64 bits.
func TestAtoms(t *testing.T) {
	for p, a := range map[int]atom.Atom{0: -1, 1: -2, 2: -3, 63: -64, 64: -65, 1 << 40: -1 - 1<<40, math.MaxInt - 1: math.MinInt + 1, math.MaxInt: math.MinInt} {
		if got := atom.Point(p); got != a {
			t.Error(p, got)
		}
		if !atom.IsPoint(a) || atom.PointOf(a) != p {
			t.Error(a, atom.IsPoint(a), atom.PointOf(a))
		}
	}
	for _, p := range []int{-1, -2, -64, math.MinInt + 1, math.MinInt} {
		if got := atom.Point(p); got != 0 {
			t.Error(p, got)
		}
	}
	for _, a := range []atom.Atom{0, 1, 2, 63, 1 << 40, math.MaxInt} {
		if atom.IsPoint(a) || atom.PointOf(a) != -1 {
			t.Error(a, atom.IsPoint(a), atom.PointOf(a))
		}
	}
}

// P10.1: of all small numbers a point and its number are each other's.
func TestAllAtoms(t *testing.T) {
	for n := -300; n < 300; n++ {
		number := modelNumber(atom.Atom(n))
		if atom.IsPoint(atom.Atom(n)) != (number != nil) {
			t.Error(n)
		}
		if number != nil && (atom.PointOf(atom.Atom(n)) != int(number.Int64()) || atom.Point(int(number.Int64())) != atom.Atom(n)) {
			t.Error(n, number)
		}
	}
}

// P10.2: pairs in order, each once, and none that asks for nothing.
func TestNorm(t *testing.T) {
	for i, c := range []struct{ l, want []atom.Pair }{
		{nil, nil},
		{[]atom.Pair{}, nil},
		{[]atom.Pair{pair(0, 0)}, nil},
		{[]atom.Pair{pair(-1, -1), pair(4, 4), pair(-1, -1)}, nil},
		{[]atom.Pair{pair(0, 1)}, []atom.Pair{pair(0, 1)}},
		{[]atom.Pair{pair(1, 0), pair(0, 1)}, []atom.Pair{pair(0, 1), pair(1, 0)}},
		{[]atom.Pair{pair(0, 2), pair(0, 1), pair(0, 2), pair(0, 1)}, []atom.Pair{pair(0, 1), pair(0, 2)}},
		{[]atom.Pair{pair(0, 1), pair(0, 0), pair(0, 1)}, []atom.Pair{pair(0, 1)}},
		{[]atom.Pair{pair(2, 9), pair(10, 1)}, []atom.Pair{pair(2, 9), pair(10, 1)}},
		{[]atom.Pair{pair(10, 1), pair(2, 9)}, []atom.Pair{pair(2, 9), pair(10, 1)}},
		{[]atom.Pair{pair(0, -1), pair(-1, 0), pair(-2, 0)}, []atom.Pair{pair(-2, 0), pair(-1, 0), pair(0, -1)}},
		{[]atom.Pair{pair(3, -1), pair(3, -2), pair(3, 0)}, []atom.Pair{pair(3, -2), pair(3, -1), pair(3, 0)}},
		{[]atom.Pair{pair(math.MaxInt, math.MinInt), pair(math.MinInt, math.MaxInt), pair(0, 1), pair(math.MinInt, 0)}, []atom.Pair{pair(math.MinInt, 0), pair(math.MinInt, math.MaxInt), pair(0, 1), pair(math.MaxInt, math.MinInt)}},
	} {
		if got := atom.Norm(c.l); !slices.Equal(got, c.want) {
			t.Error(i, told(got))
		}
	}
}

// P10.2: what stands in pairs, also in those that ask for nothing.
func TestVarsAndPoints(t *testing.T) {
	for i, c := range []struct {
		l      []atom.Pair
		vars   []atom.Atom
		points []int
	}{
		{nil, nil, nil},
		{[]atom.Pair{pair(0, 0)}, []atom.Atom{0}, nil},
		{[]atom.Pair{pair(-1, -1)}, nil, []int{0}},
		{[]atom.Pair{pair(-2, 5)}, []atom.Atom{5}, []int{1}},
		{[]atom.Pair{pair(5, -2)}, []atom.Atom{5}, []int{1}},
		{[]atom.Pair{pair(10, 9), pair(2, 10)}, []atom.Atom{2, 9, 10}, nil},
		{[]atom.Pair{pair(-1, -2), pair(-11, -3)}, nil, []int{0, 1, 2, 10}},
		{[]atom.Pair{pair(7, -1), pair(0, -9), pair(-9, 7), pair(-1, 0)}, []atom.Atom{0, 7}, []int{0, 8}},
		{[]atom.Pair{pair(math.MaxInt, math.MinInt), pair(0, -1)}, []atom.Atom{0, math.MaxInt}, []int{0, math.MaxInt}},
	} {
		if got := atom.Vars(c.l); !slices.Equal(got, c.vars) {
			t.Error(i, got)
		}
		if got := atom.Points(c.l); !slices.Equal(got, c.points) {
			t.Error(i, got)
		}
	}
}

// P10.3, P6: variables that are moved, and those whose sum is below 0, or beyond 64 bits.
func TestShift(t *testing.T) {
	for i, c := range []struct {
		l    []atom.Pair
		by   int
		want []atom.Pair
	}{
		{nil, 3, nil},
		{[]atom.Pair{pair(0, 1)}, 0, []atom.Pair{pair(0, 1)}},
		{[]atom.Pair{pair(0, 1), pair(7, 7)}, 3, []atom.Pair{pair(3, 4), pair(10, 10)}},
		{[]atom.Pair{pair(-1, 1), pair(1, -2), pair(-5, -5)}, 3, []atom.Pair{pair(-1, 4), pair(4, -2), pair(-5, -5)}},
		{[]atom.Pair{pair(0, 1), pair(2, 3)}, -1, []atom.Pair{pair(0, 0), pair(1, 2)}},
		{[]atom.Pair{pair(2, -1), pair(-2, 3)}, -3, []atom.Pair{pair(0, -1), pair(-2, 0)}},
		{[]atom.Pair{pair(2, 9)}, -9, []atom.Pair{pair(0, 0)}},
		{[]atom.Pair{pair(5, 0), pair(5, 0), pair(4, 4)}, 1, []atom.Pair{pair(6, 1), pair(6, 1), pair(5, 5)}},
		{[]atom.Pair{pair(0, 1)}, math.MaxInt, []atom.Pair{pair(math.MaxInt, 0)}},
		{[]atom.Pair{pair(math.MaxInt, math.MaxInt-1)}, 1, []atom.Pair{pair(0, math.MaxInt)}},
		{[]atom.Pair{pair(math.MaxInt, 1)}, math.MaxInt, []atom.Pair{pair(0, 0)}},
		{[]atom.Pair{pair(math.MaxInt, 0), pair(math.MinInt, 5)}, math.MinInt, []atom.Pair{pair(0, 0), pair(math.MinInt, 0)}},
		{[]atom.Pair{pair(math.MaxInt, math.MinInt)}, -math.MaxInt, []atom.Pair{pair(0, math.MinInt)}},
		{[]atom.Pair{pair(math.MaxInt, math.MaxInt-1)}, 1 - math.MaxInt, []atom.Pair{pair(1, 0)}},
	} {
		if got := atom.Shift(c.l, c.by); !slices.Equal(got, c.want) {
			t.Error(i, told(got))
		}
	}
}

// P10.3: atoms that stand in one list, by those that stand there in the other.
func TestRename(t *testing.T) {
	for i, c := range []struct {
		l        []atom.Pair
		from, to []atom.Atom
		want     []atom.Pair
	}{
		{nil, []atom.Atom{1}, []atom.Atom{2}, nil},
		{[]atom.Pair{pair(1, 2)}, nil, nil, []atom.Pair{pair(1, 2)}},
		{[]atom.Pair{pair(1, 2)}, nil, []atom.Atom{7}, []atom.Pair{pair(1, 2)}},
		{[]atom.Pair{pair(1, 2)}, []atom.Atom{1, 2}, nil, []atom.Pair{pair(1, 2)}},
		{[]atom.Pair{pair(1, 2)}, []atom.Atom{2}, []atom.Atom{7}, []atom.Pair{pair(1, 7)}},
		{[]atom.Pair{pair(1, 2), pair(2, 1)}, []atom.Atom{1, 2}, []atom.Atom{2, 1}, []atom.Pair{pair(2, 1), pair(1, 2)}},
		// What an atom has become is not renamed again.
		{[]atom.Pair{pair(1, 2)}, []atom.Atom{1, 2, 3}, []atom.Atom{2, 3, 1}, []atom.Pair{pair(2, 3)}},
		// The first place counts, also where the other list does not go that far.
		{[]atom.Pair{pair(1, 1)}, []atom.Atom{1, 1}, []atom.Atom{5, 6}, []atom.Pair{pair(5, 5)}},
		{[]atom.Pair{pair(3, 1)}, []atom.Atom{3, 1, 3}, []atom.Atom{8}, []atom.Pair{pair(8, 1)}},
		{[]atom.Pair{pair(3, 1)}, []atom.Atom{4, 3, 1}, []atom.Atom{8, 9}, []atom.Pair{pair(9, 1)}},
		{[]atom.Pair{pair(3, 1)}, []atom.Atom{3}, []atom.Atom{8, 9, 10}, []atom.Pair{pair(8, 1)}},
		// Points are atoms as others are, on both sides.
		{[]atom.Pair{pair(-1, 0), pair(0, -1)}, []atom.Atom{-1}, []atom.Atom{0}, []atom.Pair{pair(0, 0), pair(0, 0)}},
		{[]atom.Pair{pair(-1, 0), pair(0, -2)}, []atom.Atom{0, -2}, []atom.Atom{-7, -1}, []atom.Pair{pair(-1, -7), pair(-7, -1)}},
		{[]atom.Pair{pair(4, 4), pair(4, 5), pair(4, 5)}, []atom.Atom{4}, []atom.Atom{5}, []atom.Pair{pair(5, 5), pair(5, 5), pair(5, 5)}},
		{[]atom.Pair{pair(math.MaxInt, math.MinInt)}, []atom.Atom{math.MinInt, math.MaxInt}, []atom.Atom{math.MaxInt, math.MinInt}, []atom.Pair{pair(math.MinInt, math.MaxInt)}},
	} {
		if got := atom.Rename(c.l, c.from, c.to); !slices.Equal(got, c.want) {
			t.Error(i, told(got))
		}
	}
}

// P10.4: atoms and pairs as texts.
func TestText(t *testing.T) {
	names := []string{"Lo", "Hi"}
	for _, c := range []struct {
		names []string
		a     atom.Atom
		want  string
	}{
		{names, 0, "'0"}, {names, 1, "'1"}, {names, 10, "'10"}, {nil, 907, "'907"}, {nil, math.MaxInt, "'9223372036854775807"},
		{names, -1, "Lo"}, {names, -2, "Hi"}, {names, -3, "?"}, {names, math.MinInt, "?"}, {names, math.MinInt + 1, "?"},
		{nil, -1, "?"}, {[]string{}, -1, "?"}, {names[:1], -2, "?"}, {names[1:], -1, "Hi"},
		{[]string{"", "?", "a b", "Lo", "Lo"}, -1, ""}, {[]string{"", "?", "a b", "Lo", "Lo"}, -3, "a b"}, {[]string{"", "?", "a b", "Lo", "Lo"}, -5, "Lo"},
	} {
		if got := atom.Text(c.names, c.a); got != c.want {
			t.Errorf("%v %d: %q", c.names, c.a, got)
		}
	}
	for _, c := range []struct {
		names []string
		l     []atom.Pair
		want  string
	}{
		{names, nil, "-"}, {nil, nil, "-"}, {names, []atom.Pair{}, "-"},
		{names, []atom.Pair{pair(atom.Point(1), 3)}, "Hi <= '3"},
		{names, []atom.Pair{pair(0, 0)}, "'0 <= '0"},
		{nil, []atom.Pair{pair(-1, -2)}, "? <= ?"},
		{names, []atom.Pair{pair(3, -2), pair(-2, 3), pair(3, -2), pair(-3, 12)}, "'3 <= Hi, Hi <= '3, '3 <= Hi, ? <= '12"},
		{[]string{""}, []atom.Pair{pair(-1, -1)}, " <= "},
	} {
		if got := atom.Texts(c.names, c.l); got != c.want {
			t.Errorf("%v %s: %q", c.names, told(c.l), got)
		}
	}
}
