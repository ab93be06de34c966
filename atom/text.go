package atom

import (
	"strconv"
	"strings"
)

// Text tells a as a text, a point by its name; `?`, if that is none of names.
func Text(names []string, a Atom) string {
	if !IsPoint(a) {
		return "'" + strconv.Itoa(int(a))
	}
	if p := PointOf(a); p < len(names) {
		return names[p]
	}
	return "?"
}

// Texts tells l as a text; `-`, if there is nothing in it.
func Texts(names []string, l []Pair) string {
	if len(l) == 0 {
		return "-"
	}
	texts := make([]string, len(l))
	for i, p := range l {
		texts[i] = Text(names, p.A) + " <= " + Text(names, p.B)
	}
	return strings.Join(texts, ", ")
}
