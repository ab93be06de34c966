package ltype

import (
	"strings"

	"chancel/atom"
	"chancel/shape"
)

// piece is a type that is to be told, or, where there is none, a text.
type piece struct {
	of   *Type
	text string
}

// Text tells t as a text, its points by their names; `?`, if t is not right.
func Text(names []string, t Type) string {
	if !Right(t) {
		return "?"
	}
	var text strings.Builder
	left := []piece{{of: &t}} // the next one last
	for len(left) > 0 {
		p := left[len(left)-1]
		left = left[:len(left)-1]
		switch {
		case p.of == nil:
			text.WriteString(p.text)
		case p.of.Kind == shape.Fun:
			arrow := " -" + atom.Text(names, p.of.PC) + "," + atom.Text(names, p.of.X) + "-> "
			end := ")@" + atom.Text(names, p.of.L)
			text.WriteString("(")
			left = append(left, piece{text: end}, piece{of: &p.of.Kids[1]}, piece{text: arrow}, piece{of: &p.of.Kids[0]})
		default:
			text.WriteString(word(names, p.of))
		}
	}
	return text.String()
}

// word tells a right type without Kids.
func word(names []string, t *Type) string {
	l := "@" + atom.Text(names, t.L)
	if t.Kind == shape.Ref {
		return "ref" + l + "[" + atom.Text(names, t.C) + "]"
	}
	return "int" + l
}
