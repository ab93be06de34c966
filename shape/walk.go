package shape

import "slices"

// each hands the shapes of row to see, and then those in them, row by row; see tells with which Kids it goes on. It keeps a list of the rows that are left, as a shape may be deeper than calls can go.
func each(row []Shape, see func(x *Shape) []Shape) {
	left := [][]Shape{row}
	for len(left) > 0 {
		row := left[len(left)-1]
		left = left[:len(left)-1]
		for i := range row {
			if kids := see(&row[i]); len(kids) > 0 {
				left = append(left, kids)
			}
		}
	}
}

// count adds to counts how often s has a Hole of each number.
func count(s Shape, counts map[int]int) {
	each([]Shape{s}, func(x *Shape) []Shape {
		if x.Kind == Hole {
			counts[x.N]++
		}
		return x.Kids
	})
}

// filled tells s, in memory of its own, with what put tells of each Hole in its place; that is not gone through.
func filled(s Shape, put func(hole Shape) Shape) Shape {
	told := []Shape{s}
	each(told, func(x *Shape) []Shape {
		if x.Kind == Hole {
			*x = put(*x)
			return nil
		}
		x.Kids = slices.Clone(x.Kids)
		return x.Kids
	})
	return told[0]
}

// copied tells s in memory of its own.
func copied(s Shape) Shape {
	told := []Shape{s}
	each(told, func(x *Shape) []Shape {
		x.Kids = slices.Clone(x.Kids)
		return x.Kids
	})
	return told[0]
}

// turned tells what do makes of each of l, in order.
func turned[A, B any](l []A, do func(a A) B) []B {
	told := make([]B, 0, len(l))
	for _, a := range l {
		told = append(told, do(a))
	}
	return told
}
