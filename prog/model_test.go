package prog_test

import (
	"regexp"
	"slices"
	"strconv"
	"strings"

	"chancel/api"
	"chancel/lex"
	"chancel/parse"
	"chancel/prog"
	"chancel/show"
	"chancel/term"
)

// The model: the chapter's words as they stand there, pieces and lines being patterns.

var (
	keywords = []string{"fun", "let", "in", "if", "then", "else", "while", "do", "raise", "try", "with", "input", "cell", "def"}

	nameForm  = regexp.MustCompile(`^[a-zA-Z][a-zA-Z0-9]{0,15}$`)
	inputForm = regexp.MustCompile(`^input ([a-zA-Z]\w*) : ([a-zA-Z]\w*)$`)
	cellForm  = regexp.MustCompile(`^cell ([a-zA-Z]\w*) : ([a-zA-Z]\w*) = ([0-9]+)$`)
	defForm   = regexp.MustCompile(`^def ([a-zA-Z]\w*) = (.+)$`)
)

func modelName(s string) bool {
	return nameForm.MatchString(s) && !slices.Contains(keywords, s)
}

// modelSound asks all that makes p right but how long its print is.
func modelSound(p prog.Prog) bool {
	ok := len(p.Inputs) <= 32 && len(p.Cells) <= 32 && len(p.Defs) <= 32 && term.Right(p.Body)
	for _, d := range p.Inputs {
		ok = ok && modelName(d.Name) && modelName(d.Label) && d.N == 0
	}
	for _, d := range p.Cells {
		ok = ok && modelName(d.Name) && modelName(d.Label) && d.N >= 0 && d.N <= 2147483647
	}
	for _, d := range p.Defs {
		ok = ok && modelName(d.Name) && term.Right(d.T) && d.T.Kind == term.Fun
	}
	return ok
}

// modelText tells the lines of p, which is sound.
func modelText(p prog.Prog) string {
	s := ""
	for _, d := range p.Inputs {
		s += "input " + d.Name + " : " + d.Label + " .\n"
	}
	for _, d := range p.Cells {
		s += "cell " + d.Name + " : " + d.Label + " = " + strconv.Itoa(int(d.N)) + " .\n"
	}
	for _, d := range p.Defs {
		s += "def " + d.Name + " = " + show.Show(d.T) + " .\n"
	}
	return s + show.Show(p.Body) + "\n"
}

// modelPrint tells p as the chapter says, and whether it is right.
func modelPrint(p prog.Prog) (string, bool) {
	if !modelSound(p) {
		return "", false
	}
	if s := modelText(p); len(s) <= 65536 {
		return s, true
	}
	return "", false
}

// modelParse tells the program that s is a text of, or the first error.
func modelParse(s string) (prog.Prog, api.Errno) {
	l, e := lex.Lex(s)
	if e != api.OK {
		return prog.Prog{}, e
	}
	texts := []string{}
	for _, t := range l {
		texts = append(texts, t.Text)
	}
	cut := modelCut(texts)
	if len(cut)-1 > 96 {
		return prog.Prog{}, api.ErrLimit
	}
	var p prog.Prog
	for _, piece := range cut[:len(cut)-1] {
		if e := modelPiece(&p, piece); e != api.OK {
			return prog.Prog{}, e
		}
	}
	p.Body, e = parse.Parse(cut[len(cut)-1])
	if e != api.OK {
		return prog.Prog{}, e
	}
	return p, api.OK
}

// modelCut cuts texts at each `.`, and tells each piece as a text.
func modelCut(texts []string) []string {
	cut := [][]string{nil}
	for _, s := range texts {
		last := len(cut) - 1
		if s == "." {
			cut = append(cut, nil)
		} else {
			cut[last] = append(cut[last], s)
		}
	}
	var pieces []string
	for _, l := range cut {
		pieces = append(pieces, strings.Join(l, " "))
	}
	return pieces
}

// modelPiece adds to p what a piece is, or tells its error.
func modelPiece(p *prog.Prog, s string) api.Errno {
	word := func(s string) bool { return !slices.Contains(keywords, s) }
	if m := inputForm.FindStringSubmatch(s); m != nil && word(m[1]) && word(m[2]) && len(p.Cells) == 0 && len(p.Defs) == 0 {
		p.Inputs = append(p.Inputs, prog.Decl{Name: m[1], Label: m[2]})
	} else if m := cellForm.FindStringSubmatch(s); m != nil && word(m[1]) && word(m[2]) && len(p.Defs) == 0 {
		n, _ := strconv.ParseInt(m[3], 10, 64)
		p.Cells = append(p.Cells, prog.Decl{Name: m[1], Label: m[2], N: n})
	} else if m := defForm.FindStringSubmatch(s); m != nil && word(m[1]) {
		t, e := parse.Parse(m[2])
		if e != api.OK {
			return e
		}
		if t.Kind != term.Fun {
			return api.ErrParse
		}
		p.Defs = append(p.Defs, prog.Def{Name: m[1], T: t})
	} else {
		return api.ErrParse
	}
	if len(p.Inputs) > 32 || len(p.Cells) > 32 || len(p.Defs) > 32 {
		return api.ErrLimit
	}
	return api.OK
}

// strung hands in each row of n of the words.
func strung(n int, words []string, see func(row []string)) {
	if n == 0 {
		see(nil)
		return
	}
	strung(n-1, words, func(row []string) {
		for _, w := range words {
			see(append(row[:n-1:n-1], w))
		}
	})
}

func num(n int64) term.Term { return term.Term{Kind: term.Num, N: n} }

func v(name string) term.Term { return term.Term{Kind: term.Var, Name: name} }

func of(kind int, name string, kids ...term.Term) term.Term {
	return term.Term{Kind: kind, Name: name, Kids: kids}
}

// in is t in so many terms of that Kind, which has one Kid.
func in(t term.Term, depth, kind int) term.Term {
	for range depth {
		t = of(kind, "", t)
	}
	return t
}

// flat is a right term of that size, but for how great that is, as flat as it can be; its print is longer by much than a text of it has to be.
func flat(size int) term.Term {
	switch size {
	case 1:
		return num(1)
	case 2:
		return of(term.Get, "", num(1))
	}
	half := (size - 1) / 2
	return of(term.Seq, "", flat(half), flat(size-1-half))
}

// some is a right program with two of each kind.
func some() prog.Prog {
	return prog.Prog{
		Inputs: []prog.Decl{{Name: "h", Label: "Hi"}, {Name: "l", Label: "Lo"}},
		Cells:  []prog.Decl{{Name: "c", Label: "Hi", N: 7}, {Name: "d", Label: "Lo"}},
		Defs:   []prog.Def{{Name: "f", T: of(term.Fun, "x", of(term.Op, "+", v("x"), num(1)))}, {Name: "g", T: of(term.Fun, "x", of(term.Fun, "y", v("f")))}},
		Body:   of(term.Seq, "", of(term.Set, "", v("c"), v("h")), of(term.App, "", v("g"), v("l"))),
	}
}

// someText is what some is printed as.
const someText = `input h : Hi .
input l : Lo .
cell c : Hi = 7 .
cell d : Lo = 0 .
def f = fun x => ( x + 1 ) .
def g = fun x => ( fun y => f ) .
( c := h ) ; ( g l )
`

// full is a right program with so many of each kind.
func full(inputs, cells, defs int) prog.Prog {
	p := prog.Prog{Body: num(1)}
	for i := range inputs {
		p.Inputs = append(p.Inputs, prog.Decl{Name: "i" + strconv.Itoa(i), Label: "A"})
	}
	for i := range cells {
		p.Cells = append(p.Cells, prog.Decl{Name: "c" + strconv.Itoa(i), Label: "B", N: int64(i)})
	}
	for i := range defs {
		p.Defs = append(p.Defs, prog.Def{Name: "d" + strconv.Itoa(i), T: of(term.Fun, "x", v("x"))})
	}
	return p
}
