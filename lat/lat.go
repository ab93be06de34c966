// Package lat is layer 1, lattices: see shared/doc/01-lat.md.
package lat

import (
	"iter"
	"math/bits"
	"slices"

	"chancel/api"
)

// Lat is a lattice of points: point i has the name Names[i], and is below point b, if bit b of Up[i] is set.
type Lat struct {
	Names []string
	Up    []uint64
}

// Name asks whether s is a name: a letter, and letters and digits behind it.
func Name(s string) bool {
	if len(s) == 0 || len(s) > api.MaxName || !letter(s[0]) {
		return false
	}
	for i := range len(s) {
		if !letter(s[i]) && !digit(s[i]) {
			return false
		}
	}
	return true
}

func letter(c byte) bool {
	return 'a' <= c && c <= 'z' || 'A' <= c && c <= 'Z'
}

func digit(c byte) bool {
	return '0' <= c && c <= '9'
}

// Right asks whether l is a lattice.
func Right(l Lat) bool {
	n := len(l.Names)
	return 1 <= n && n <= api.MaxPoints && len(l.Up) == n && named(l.Names) && within(l.Up) && ordered(l.Up) && complete(l.Up)
}

// Find tells the first point of that name; -1, if there is none.
func Find(l Lat, name string) int {
	return slices.Index(l.Names, name)
}

// Leq asks whether a and b are points, and a is below b; l need not be right.
func Leq(l Lat, a, b int) bool {
	return point(l, a) && point(l, b) && l.Up[a]>>b&1 == 1
}

// Join tells the least point that a and b are below; -1, if l is not right, or they are no points.
func Join(l Lat, a, b int) int {
	if !Right(l) || !point(l, a) || !point(l, b) {
		return -1
	}
	return least(l.Up, l.Up[a]&l.Up[b])
}

// Meet tells the greatest point below a and b; -1, if l is not right, or they are no points.
func Meet(l Lat, a, b int) int {
	if !Right(l) || !point(l, a) || !point(l, b) {
		return -1
	}
	down := turned(l.Up)
	return least(down, down[a]&down[b])
}

// Bottom tells the point below all; -1, if l is not right.
func Bottom(l Lat) int {
	if !Right(l) {
		return -1
	}
	return least(l.Up, all(len(l.Up)))
}

// Top tells the point that all are below; -1, if l is not right.
func Top(l Lat) int {
	if !Right(l) {
		return -1
	}
	return least(turned(l.Up), all(len(l.Up)))
}

// point asks whether a has both a name and a row, of which a wrong l may have more of the one than of the other.
func point(l Lat, a int) bool {
	return 0 <= a && a < len(l.Names) && a < len(l.Up)
}

// named asks whether all are names, no two alike.
func named(names []string) bool {
	for i, s := range names {
		if !Name(s) || slices.Contains(names[:i], s) {
			return false
		}
	}
	return true
}

// places goes through the bits of set that are set, the lowest first.
func places(set uint64) iter.Seq[int] {
	return func(yield func(int) bool) {
		for left := set; left != 0; left &= left - 1 {
			if !yield(bits.TrailingZeros64(left)) {
				return
			}
		}
	}
}

// all is the set of the first n places, n being at most 64.
func all(n int) uint64 {
	return uint64(1)<<n - 1
}

// within asks whether no row has a place beyond the rows.
func within(rows []uint64) bool {
	for _, row := range rows {
		if row&^all(len(rows)) != 0 {
			return false
		}
	}
	return true
}

// ordered asks whether rows that are within are those of an order.
func ordered(rows []uint64) bool {
	for a, row := range rows {
		if row>>a&1 == 0 {
			return false
		}
		for b := range places(row) {
			if rows[b]&^row != 0 || a != b && rows[b]>>a&1 == 1 {
				return false
			}
		}
	}
	return true
}

// complete asks whether every two points of an order have a join, and a meet.
func complete(rows []uint64) bool {
	for a, row := range rows {
		for b := range a {
			if least(rows, row&rows[b]) < 0 {
				return false
			}
		}
	}
	// Meets need no look of their own: where a bottom is, two points have points below both, and the join of all these is the meet.
	return least(rows, all(len(rows))) >= 0
}

// least tells the place of set whose row has all of set; -1, if there is none.
func least(rows []uint64, set uint64) int {
	for a := range places(set) {
		if set&^rows[a] == 0 {
			return a
		}
	}
	return -1
}

// turned tells the rows of the order upside down: whose place b has a, if rows' a has b.
func turned(rows []uint64) []uint64 {
	down := make([]uint64, len(rows))
	for a, row := range rows {
		for b := range places(row) {
			down[b] |= uint64(1) << a
		}
	}
	return down
}
