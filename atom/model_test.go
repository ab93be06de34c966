package atom_test

import (
	"math/big"
	"slices"
	"strconv"

	"chancel/atom"
)

// The model: the chapter's words, one by one, to hold the package against.

// modelNumber tells the number of the point that a is; none, if it is a variable.
func modelNumber(a atom.Atom) *big.Int {
	if a >= 0 {
		return nil
	}
	return new(big.Int).Sub(big.NewInt(-1), big.NewInt(int64(a)))
}

// modelBefore asks whether p stands ahead of q: by A, then by B.
func modelBefore(p, q atom.Pair) bool {
	if p.A != q.A {
		return p.A < q.A
	}
	return p.B < q.B
}

// modelNorm lays each Pair where it has its place among those that are laid.
func modelNorm(l []atom.Pair) []atom.Pair {
	var told []atom.Pair
	for _, p := range l {
		if p.A == p.B || slices.Contains(told, p) {
			continue
		}
		i := 0
		for i < len(told) && modelBefore(told[i], p) {
			i++
		}
		told = slices.Insert(told, i, p)
	}
	return told
}

// modelAtoms tells the atoms in l, in order.
func modelAtoms(l []atom.Pair) []atom.Atom {
	var all []atom.Atom
	for _, p := range l {
		all = append(all, p.A, p.B)
	}
	return all
}

// modelRising tells the numbers, rising, each once.
func modelRising(l []int) []int {
	var told []int
	for _, n := range l {
		i := 0
		for i < len(told) && told[i] < n {
			i++
		}
		if i == len(told) || told[i] != n {
			told = slices.Insert(told, i, n)
		}
	}
	return told
}

func modelVars(l []atom.Pair) []int {
	var all []int
	for _, a := range modelAtoms(l) {
		if a >= 0 {
			all = append(all, int(a))
		}
	}
	return modelRising(all)
}

func modelPoints(l []atom.Pair) []int {
	var all []int
	for _, a := range modelAtoms(l) {
		if n := modelNumber(a); n != nil {
			all = append(all, int(n.Int64()))
		}
	}
	return modelRising(all)
}

// modelShift adds as numbers of 64 bits do: what is beyond them begins again at the other end.
func modelShift(l []atom.Pair, by int) []atom.Pair {
	move := func(a atom.Atom) atom.Atom {
		if a < 0 {
			return a
		}
		sum := new(big.Int).Add(big.NewInt(int64(a)), big.NewInt(int64(by)))
		if sum.Cmp(big.NewInt(0)) < 0 || sum.BitLen() > 63 {
			return 0
		}
		return atom.Atom(sum.Int64())
	}
	var told []atom.Pair
	for _, p := range l {
		told = append(told, atom.Pair{A: move(p.A), B: move(p.B)})
	}
	return told
}

func modelRename(l []atom.Pair, from, to []atom.Atom) []atom.Pair {
	name := func(a atom.Atom) atom.Atom {
		for i, b := range from {
			if a == b {
				if i < len(to) {
					return to[i]
				}
				return a
			}
		}
		return a
	}
	var told []atom.Pair
	for _, p := range l {
		told = append(told, atom.Pair{A: name(p.A), B: name(p.B)})
	}
	return told
}

func modelText(names []string, a atom.Atom) string {
	n := modelNumber(a)
	if n == nil {
		return "'" + big.NewInt(int64(a)).String()
	}
	for i, name := range names {
		if n.Cmp(big.NewInt(int64(i))) == 0 {
			return name
		}
	}
	return "?"
}

func modelTexts(names []string, l []atom.Pair) string {
	if len(l) == 0 {
		return "-"
	}
	text := ""
	for i, p := range l {
		if i > 0 {
			text += ", "
		}
		text += modelText(names, p.A) + " <= " + modelText(names, p.B)
	}
	return text
}

func pair(a, b atom.Atom) atom.Pair { return atom.Pair{A: a, B: b} }

// pairs tells all Pairs of these atoms.
func pairs(of []atom.Atom) []atom.Pair {
	var all []atom.Pair
	for _, a := range of {
		for _, b := range of {
			all = append(all, pair(a, b))
		}
	}
	return all
}

// rows hands in each row of n of these.
func rows[T any](n int, of []T, see func(row []T)) {
	if n == 0 {
		see(nil)
		return
	}
	rows(n-1, of, func(row []T) {
		for _, x := range of {
			see(append(slices.Clip(row), x))
		}
	})
}

// ints tells the atoms as numbers.
func ints(l []atom.Atom) []int {
	var told []int
	for _, a := range l {
		told = append(told, int(a))
	}
	return told
}

// told tells l to a reader of a failure.
func told(l []atom.Pair) string {
	text := ""
	for _, p := range l {
		text += strconv.Itoa(int(p.A)) + "<=" + strconv.Itoa(int(p.B)) + " "
	}
	return text
}
