package prog

import (
	"strconv"
	"strings"

	"chancel/api"
	"chancel/show"
)

// Print tells p as a text, a line for each of its parts; nothing, if p is not right.
func Print(p Prog) string {
	s, _ := printed(p)
	return s
}

// printed tells the text of p, and whether p is right: that asks for the text too, as it must not be too long.
func printed(p Prog) (string, bool) {
	if !sound(p) {
		return "", false
	}
	s := text(p)
	if len(s) > api.MaxText {
		return "", false
	}
	return s, true
}

// text tells p, which is right but for how long its text is, as a text.
func text(p Prog) string {
	var b strings.Builder
	for _, d := range p.Inputs {
		line(&b, "input", d.Name, ":", d.Label, ".")
	}
	for _, d := range p.Cells {
		line(&b, "cell", d.Name, ":", d.Label, "=", strconv.FormatInt(d.N, 10), ".")
	}
	for _, d := range p.Defs {
		line(&b, "def", d.Name, "=", show.Show(d.T), ".")
	}
	line(&b, show.Show(p.Body))
	return b.String()
}

// line lays the words of a line behind b.
func line(b *strings.Builder, words ...string) {
	b.WriteString(strings.Join(words, " "))
	b.WriteByte('\n')
}
