package prog

import (
	"slices"

	"chancel/api"
	"chancel/lex"
	"chancel/parse"
	"chancel/term"
)

// Parse tells the program that s is a text of.
func Parse(s string) (Prog, api.Errno) {
	l, e := lex.Lex(s)
	if e != api.OK {
		return Prog{}, e
	}
	cut := pieces(l)
	last := len(cut) - 1
	if last > 3*api.MaxDecls {
		return Prog{}, api.ErrLimit
	}
	var d draft
	if e := d.read(cut[:last]); e != api.OK {
		return Prog{}, e
	}
	d.Body, e = parse.Toks(cut[last])
	if e != api.OK {
		return Prog{}, e
	}
	return Prog(d), api.OK
}

// pieces cuts l at each `.`, which is left out; there is one piece more than there are of these.
func pieces(l []lex.Tok) [][]lex.Tok {
	var cut [][]lex.Tok
	first := 0
	for i, t := range l {
		if t.Text == "." {
			cut = append(cut, l[first:i])
			first = i + 1
		}
	}
	return append(cut, l[first:])
}

// draft is a program as far as its pieces are read.
type draft Prog

// readers has, for each keyword that a piece may begin with, what reads the rest of that piece.
func readers() map[string]func(*draft, []lex.Tok) api.Errno {
	return map[string]func(*draft, []lex.Tok) api.Errno{
		"input": (*draft).input,
		"cell":  (*draft).cell,
		"def":   (*draft).def,
	}
}

// read reads all pieces but the last one of a program, up to the first that is wrong.
func (d *draft) read(cut [][]lex.Tok) api.Errno {
	known := readers()
	for _, l := range cut {
		if len(l) == 0 {
			return api.ErrParse
		}
		rest, ok := known[l[0].Text]
		if !ok {
			return api.ErrParse
		}
		if e := rest(d, l[1:]); e != api.OK {
			return e
		}
	}
	return api.OK
}

func (d *draft) input(l []lex.Tok) api.Errno {
	if !fits(l, aName, ":", aName) || len(d.Cells) > 0 || len(d.Defs) > 0 {
		return api.ErrParse
	}
	return add(&d.Inputs, Decl{Name: l[0].Text, Label: l[2].Text})
}

func (d *draft) cell(l []lex.Tok) api.Errno {
	if !fits(l, aName, ":", aName, "=", aNum) || len(d.Defs) > 0 {
		return api.ErrParse
	}
	return add(&d.Cells, Decl{Name: l[0].Text, Label: l[2].Text, N: l[4].N})
}

func (d *draft) def(l []lex.Tok) api.Errno {
	if len(l) < 2 || !fits(l[:2], aName, "=") {
		return api.ErrParse
	}
	t, e := parse.Toks(l[2:])
	if e != api.OK {
		return e
	}
	if t.Kind != term.Fun {
		return api.ErrParse
	}
	return add(&d.Defs, Def{Name: l[0].Text, T: t})
}

// add lays one more of a kind behind all, if there is room for it.
func add[T any](all *[]T, one T) api.Errno {
	if len(*all) == api.MaxDecls {
		return api.ErrLimit
	}
	*all = append(*all, one)
	return api.OK
}

// What stands in a form for any token of that kind. No keyword and no mark reads so.
const (
	aName = "a name"
	aNum  = "a number"
)

// fits asks whether the tokens are, one by one, as the form has them.
func fits(l []lex.Tok, form ...string) bool {
	return slices.EqualFunc(l, form, is)
}

func is(t lex.Tok, form string) bool {
	switch t.Kind {
	case lex.Name:
		return form == aName
	case lex.Num:
		return form == aNum
	}
	return form == t.Text
}
