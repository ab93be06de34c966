package show_test

import (
	"regexp"
	"slices"
	"strconv"
	"strings"

	"chancel/lex"
	"chancel/term"
)

// The model: the chapter's sentence as patterns, in which Digits, Name, and 0, 1, 2 (the Kids) are filled in.

var (
	allKinds  = []int{term.Num, term.Var, term.Fun, term.App, term.Let, term.If, term.While, term.Raise, term.Try, term.Get, term.Set, term.Op, term.Seq}
	operators = []string{"+", "-", "*", "<", "="}
	keywords  = []string{"fun", "let", "in", "if", "then", "else", "while", "do", "raise", "try", "with", "input", "cell", "def"}

	patterns = map[int]string{
		term.Num:   "Digits",
		term.Var:   "Name",
		term.Fun:   "fun Name => 0",
		term.App:   "0 1",
		term.Let:   "let Name = 0 in 1",
		term.If:    "if 0 then 1 else 2",
		term.While: "while 0 do 1",
		term.Raise: "raise 0",
		term.Try:   "try 0 with Name => 1",
		term.Get:   "! 0",
		term.Set:   "0 := 1",
		term.Op:    "0 Name 1",
		term.Seq:   "0 ; 1",
	}

	modelDigits = regexp.MustCompile(`^[0-9]+$`)
	modelName   = regexp.MustCompile(`^[a-zA-Z][a-zA-Z0-9]*$`)
)

// modelTexts tells the texts of the tokens of a right term.
func modelTexts(t term.Term) []string {
	var all []string
	for _, word := range strings.Fields(patterns[t.Kind]) {
		switch word {
		case "Digits":
			all = append(all, strconv.FormatInt(t.N, 10))
		case "Name":
			all = append(all, t.Name)
		case "0", "1", "2":
			all = append(all, modelKid(t.Kids[word[0]-'0'])...)
		default:
			all = append(all, word)
		}
	}
	return all
}

func modelKid(t term.Term) []string {
	if t.Kind == term.Num || t.Kind == term.Var {
		return modelTexts(t)
	}
	return slices.Concat([]string{"("}, modelTexts(t), []string{")"})
}

// modelToks tells the tokens of a right term.
func modelToks(t term.Term) []lex.Tok {
	var all []lex.Tok
	for _, s := range modelTexts(t) {
		switch {
		case slices.Contains(keywords, s):
			all = append(all, key(s))
		case modelName.MatchString(s):
			all = append(all, name(s))
		case modelDigits.MatchString(s):
			all = append(all, digits(s))
		default:
			all = append(all, mark(s))
		}
	}
	return all
}

func key(s string) lex.Tok { return lex.Tok{Kind: lex.Key, Text: s} }

func mark(s string) lex.Tok { return lex.Tok{Kind: lex.Mark, Text: s} }

func name(s string) lex.Tok { return lex.Tok{Kind: lex.Name, Text: s} }

func digits(s string) lex.Tok {
	n, err := strconv.ParseInt(s, 10, 64)
	if err != nil {
		panic(err)
	}
	return lex.Tok{Kind: lex.Num, Text: s, N: n}
}

func num(n int64) term.Term { return term.Term{Kind: term.Num, N: n} }

func v(name string) term.Term { return term.Term{Kind: term.Var, Name: name} }

func of(kind int, name string, kids ...term.Term) term.Term {
	return term.Term{Kind: kind, Name: name, Kids: kids}
}

// count tells how many Kids a right term of that Kind has.
func count(kind int) int {
	n := 0
	for _, kid := range []string{"0", "1", "2"} {
		n += strings.Count(patterns[kind], kid)
	}
	return n
}

// flat is a right term of that Kind, its Kids being numbers.
func flat(kind int) term.Term {
	t := of(kind, "")
	switch {
	case kind == term.Op:
		t.Name = "+"
	case strings.Contains(patterns[kind], "Name"):
		t.Name = "x"
	}
	for i := range count(kind) {
		t.Kids = append(t.Kids, num(int64(i)))
	}
	return t
}

// deep is a right term of that depth and Kind, each level being Kid i of the one above it, the lowest a number.
func deep(kind, i, depth int) term.Term {
	t := num(7)
	for range depth - 1 {
		over := flat(kind)
		over.Kids[i] = t
		t = over
	}
	return t
}

// sized is a term of that size, of that Kind of two Kids where it can be, as flat as that allows; the leaf stands at its ends.
func sized(size, kind int, leaf term.Term) term.Term {
	switch size {
	case 1:
		return leaf
	case 2:
		return of(term.Get, "", leaf)
	}
	t := flat(kind)
	half := (size - 1) / 2
	t.Kids[0], t.Kids[1] = sized(half, kind, leaf), sized(size-1-half, kind, leaf)
	return t
}

// heads are terms whose Kids are still to be given: of all Kinds, two of a Kind where there can be.
func heads() []term.Term {
	all := []term.Term{num(0), num(12), v("x"), v("y")}
	for _, kind := range []int{term.Fun, term.Let, term.Try} {
		all = append(all, of(kind, "x"), of(kind, "y"))
	}
	for _, kind := range []int{term.App, term.If, term.While, term.Raise, term.Get, term.Set, term.Seq} {
		all = append(all, of(kind, ""))
	}
	for _, op := range operators {
		all = append(all, of(term.Op, op))
	}
	return all
}

// allOf tells all right terms of that size made of the heads.
func allOf(size int, heads []term.Term) []term.Term {
	rows := [][][]term.Term{}
	for n := range 4 {
		rows = append(rows, rowsOf(n, size-1, heads))
	}
	var all []term.Term
	for _, h := range heads {
		for _, kids := range rows[count(h.Kind)] {
			h.Kids = kids
			all = append(all, h)
		}
	}
	return all
}

// rowsOf tells all rows of n right terms that have that size together.
func rowsOf(n, size int, heads []term.Term) [][]term.Term {
	if n == 0 && size == 0 {
		return [][]term.Term{nil}
	}
	if n == 0 || size < n {
		return nil
	}
	var all [][]term.Term
	for first := 1; first <= size-n+1; first++ {
		rest := rowsOf(n-1, size-first, heads)
		if len(rest) == 0 {
			continue
		}
		for _, t := range allOf(first, heads) {
			for _, r := range rest {
				all = append(all, append([]term.Term{t}, r...))
			}
		}
	}
	return all
}

// each hands in t and all terms in it, to be written into.
func each(t *term.Term, see func(t *term.Term)) {
	see(t)
	for i := range t.Kids {
		each(&t.Kids[i], see)
	}
}

// copied is t in memory of its own, which has room behind the Kids.
func copied(t term.Term) term.Term {
	kids := make([]term.Term, 0, len(t.Kids)+1)
	for _, k := range t.Kids {
		kids = append(kids, copied(k))
	}
	kids = append(kids, v("spare"))
	t.Kids = kids[:len(kids)-1]
	return t
}

// spared asks whether what stands behind all Kids is as copied left it.
func spared(t term.Term) bool {
	behind := t.Kids[:len(t.Kids)+1]
	return term.Same(behind[len(t.Kids)], v("spare")) && !slices.ContainsFunc(t.Kids, func(k term.Term) bool { return !spared(k) })
}

// many is a right term in which there is one of each Kind.
func many() term.Term {
	return of(term.Let, "f", of(term.Fun, "x", of(term.Op, "-", v("x"), v("y"))), of(term.Try, "e",
		of(term.If, "", of(term.Get, "", v("c")), of(term.Raise, "", num(7)), of(term.App, "", v("f"), v("e"))),
		of(term.Seq, "", of(term.Set, "", v("c"), v("e")), of(term.While, "", of(term.Op, "<", v("x"), num(2)), of(term.App, "", v("f"), num(3))))))
}
