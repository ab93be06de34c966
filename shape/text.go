package shape

import (
	"strconv"
	"strings"
)

// piece is a shape that is to be told, or, where there is none, a text.
type piece struct {
	of   *Shape
	text string
}

// Text tells s as a text; `?`, if s is not right.
func Text(s Shape) string {
	if !Right(s) {
		return "?"
	}
	var text strings.Builder
	left := []piece{{of: &s}} // the next one last
	for len(left) > 0 {
		p := left[len(left)-1]
		left = left[:len(left)-1]
		switch {
		case p.of == nil:
			text.WriteString(p.text)
		case p.of.Kind == Fun:
			text.WriteString("(")
			left = append(left, piece{text: ")"}, piece{of: &p.of.Kids[1]}, piece{text: " -> "}, piece{of: &p.of.Kids[0]})
		default:
			text.WriteString(word(p.of))
		}
	}
	return text.String()
}

// word tells a right shape without Kids.
func word(s *Shape) string {
	switch s.Kind {
	case Int:
		return "int"
	case Ref:
		return "ref"
	}
	return "'" + strconv.Itoa(s.N)
}
