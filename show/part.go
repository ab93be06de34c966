package show

import (
	"strconv"

	"chancel/lex"
	"chancel/term"
)

// part is one of what a term is laid of. Its method does nothing but keep all else out: a bare text does not tell which kind of token it is.
type part interface {
	part()
}

type (
	key  string
	mark string
	name string
	num  int64
	kid  term.Term
)

func (key) part()  {}
func (mark) part() {}
func (name) part() {}
func (num) part()  {}
func (kid) part()  {}

// lay lays the parts behind l, in order.
func lay(l []lex.Tok, parts ...part) []lex.Tok {
	for _, p := range parts {
		switch x := p.(type) {
		case key:
			l = append(l, lex.Tok{Kind: lex.Key, Text: string(x)})
		case mark:
			l = append(l, lex.Tok{Kind: lex.Mark, Text: string(x)})
		case name:
			l = append(l, lex.Tok{Kind: lex.Name, Text: string(x)})
		case num:
			l = append(l, lex.Tok{Kind: lex.Num, Text: strconv.FormatInt(int64(x), 10), N: int64(x)})
		case kid:
			l = layKid(l, term.Term(x))
		}
	}
	return l
}

// layKid lays t as it stands in another term.
func layKid(l []lex.Tok, t term.Term) []lex.Tok {
	if t.Kind == term.Num || t.Kind == term.Var {
		return laid(l, t)
	}
	l = lay(l, mark("("))
	l = laid(l, t)
	return lay(l, mark(")"))
}
