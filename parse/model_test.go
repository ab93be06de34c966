package parse_test

import (
	"slices"
	"strconv"
	"strings"

	"chancel/lex"
	"chancel/term"
)

// The model: the chapter's grammar as it stands there, of which all that is an E of some tokens is made, in every way; of more than one way that is taken whose first E or A that differs is longer.

// rule is one way of a symbol, and the Kind that comes of it; 0, if it is the one that stands in it.
type rule struct {
	symbols string
	kind    int
}

var grammar = map[string][]rule{
	"E": {{"S", 0}, {"S ; E", term.Seq}},
	"S": {
		{"fun n => E", term.Fun}, {"let n = E in E", term.Let}, {"if E then E else E", term.If}, {"while E do E", term.While}, {"raise S", term.Raise}, {"try E with n => E", term.Try},
		{"A", 0}, {"A := S", term.Set}, {"A o A", term.Op},
	},
	"A": {{"P", 0}, {"A P", term.App}},
	"P": {{"d", term.Num}, {"n", term.Var}, {"( E )", 0}, {"! P", term.Get}},
}

// words are what n, o and d stand for in the model: not all that there is.
var words = map[string][]string{"n": {"x", "y"}, "o": {"+", "="}, "d": {"1"}}

// way is one way in which tokens are a symbol.
type way struct {
	texts   []string
	t       term.Term
	lengths []int // of each E and A in it, each ahead of those in it
}

// model keeps the ways of a symbol, or of a row of them, of a length.
type model map[string][]way

// ways tells all ways of a symbol that have so many tokens.
func (m model) ways(symbol string, length int) []way {
	if _, ok := grammar[symbol]; !ok {
		return wordWays(symbol, length)
	}
	at := symbol + strconv.Itoa(length)
	if known, ok := m[at]; ok {
		return known
	}
	var all []way
	for _, r := range grammar[symbol] {
		for _, w := range m.rows(strings.Fields(r.symbols), length) {
			if symbol == "E" || symbol == "A" {
				w.lengths = append([]int{length}, w.lengths...)
			}
			w.t = made(r.kind, w.t)
			all = append(all, w)
		}
	}
	m[at] = all
	return all
}

func wordWays(symbol string, length int) []way {
	texts, ok := words[symbol]
	if !ok {
		texts = []string{symbol}
	}
	if length != 1 {
		return nil
	}
	var all []way
	for _, s := range texts {
		w := way{texts: []string{s}}
		if ok {
			w.t.Name = s
		}
		all = append(all, w)
	}
	return all
}

// rows tells all ways of symbols that stand in a row; the term of each has what is in them as Kids and Name.
func (m model) rows(symbols []string, length int) []way {
	if len(symbols) == 0 && length == 0 {
		return []way{{}}
	}
	if len(symbols) == 0 || length < len(symbols) {
		return nil
	}
	at := strings.Join(symbols, " ") + " in " + strconv.Itoa(length)
	if known, ok := m[at]; ok {
		return known
	}
	var all []way
	_, inner := grammar[symbols[0]]
	for first := 1; first <= length-len(symbols)+1; first++ {
		rest := m.rows(symbols[1:], length-first)
		if len(rest) == 0 {
			continue
		}
		for _, a := range m.ways(symbols[0], first) {
			for _, b := range rest {
				t := term.Term{Name: a.t.Name + b.t.Name, Kids: b.t.Kids}
				if inner {
					t = term.Term{Name: b.t.Name, Kids: append([]term.Term{a.t}, b.t.Kids...)}
				}
				all = append(all, way{texts: slices.Concat(a.texts, b.texts), t: t, lengths: slices.Concat(a.lengths, b.lengths)})
			}
		}
	}
	m[at] = all
	return all
}

// made tells the term of a rule's Kind of the Kids and the Name of row.
func made(kind int, row term.Term) term.Term {
	switch kind {
	case 0:
		return row.Kids[0]
	case term.Num:
		n, _ := strconv.ParseInt(row.Name, 10, 64)
		return num(n)
	}
	return of(kind, row.Name, row.Kids...)
}

// sentences tells all texts of tokens, a space between two, that are an E of at most so many, and what each is.
func sentences(most int) map[string]term.Term {
	all := map[string]way{}
	m := model{}
	for length := 1; length <= most; length++ {
		for _, w := range m.ways("E", length) {
			s := strings.Join(w.texts, " ")
			other, ok := all[s]
			if ok && slices.Equal(w.lengths, other.lengths) {
				panic(s)
			}
			if !ok || slices.Compare(w.lengths, other.lengths) > 0 {
				all[s] = w
			}
		}
	}
	terms := map[string]term.Term{}
	for s, w := range all {
		terms[s] = w.t
	}
	return terms
}

// strung hands in each row of n of the words.
func strung(n int, words []string, see func(row []string)) {
	if n == 0 {
		see(nil)
		return
	}
	strung(n-1, words, func(row []string) {
		for _, w := range words {
			see(append(row[:n-1:n-1], w))
		}
	})
}

// patterns tells what each Kind is shown as; 0, 1, 2 are its Kids.
var patterns = map[int]string{
	term.Num: "Digits", term.Var: "Name", term.Fun: "fun Name => 0", term.App: "0 1", term.Let: "let Name = 0 in 1", term.If: "if 0 then 1 else 2", term.While: "while 0 do 1", term.Raise: "raise 0",
	term.Try: "try 0 with Name => 1", term.Get: "! 0", term.Set: "0 := 1", term.Op: "0 Name 1", term.Seq: "0 ; 1",
}

// shown tells t as texts of tokens, all that is in it between `(` and `)`.
func shown(t term.Term) []string {
	var all []string
	for _, word := range strings.Fields(patterns[t.Kind]) {
		switch word {
		case "Digits":
			all = append(all, strconv.FormatInt(t.N, 10))
		case "Name":
			all = append(all, t.Name)
		case "0", "1", "2":
			all = append(all, "(")
			all = append(all, shown(t.Kids[word[0]-'0'])...)
			all = append(all, ")")
		default:
			all = append(all, word)
		}
	}
	return all
}

// lean tells t as texts of tokens with few `(` and `)`, where it stands as symbol.
func lean(t term.Term, symbol string) []string {
	const symbols = "ESAP" // each is all that those behind it are
	least, ok := map[int]string{term.Num: "P", term.Var: "P", term.Get: "P", term.App: "A", term.Seq: "E"}[t.Kind]
	if !ok {
		least = "S"
	}
	if strings.Index(symbols, least) < strings.Index(symbols, symbol) {
		return alone(t)
	}
	var all []string
	for i, word := range strings.Fields(leanPatterns[t.Kind]) {
		switch {
		case word == "Digits":
			all = append(all, strconv.FormatInt(t.N, 10))
		case word == "Name":
			all = append(all, t.Name)
		case t.Kind == term.Seq && i == 0 && greedy(t.Kids[0]):
			all = append(all, alone(t.Kids[0])...)
		case strings.Contains(symbols, word[:1]):
			all = append(all, lean(t.Kids[word[1]-'0'], word[:1])...)
		default:
			all = append(all, word)
		}
	}
	return all
}

// leanPatterns tells as which symbol each Kid stands.
var leanPatterns = map[int]string{
	term.Num: "Digits", term.Var: "Name", term.Fun: "fun Name => E0", term.App: "A0 P1", term.Let: "let Name = E0 in E1", term.If: "if E0 then E1 else E2", term.While: "while E0 do E1", term.Raise: "raise S0",
	term.Try: "try E0 with Name => E1", term.Get: "! P0", term.Set: "A0 := S1", term.Op: "A0 Name A1", term.Seq: "S0 ; E1",
}

func alone(t term.Term) []string {
	return slices.Concat([]string{"("}, lean(t, "E"), []string{")"})
}

// greedy asks whether t would take a `;` behind it into an E that it ends with.
func greedy(t term.Term) bool {
	switch t.Kind {
	case term.Fun, term.Let, term.If, term.While, term.Try:
		return true
	case term.Raise, term.Set:
		return greedy(t.Kids[len(t.Kids)-1])
	}
	return false
}

// toks tells tokens of these texts.
func toks(texts []string) []lex.Tok {
	l := make([]lex.Tok, len(texts))
	for i, s := range texts {
		l[i] = tok(s)
	}
	return l
}

func tok(s string) lex.Tok {
	switch {
	case slices.Contains(keywords, s):
		return lex.Tok{Kind: lex.Key, Text: s}
	case '0' <= s[0] && s[0] <= '9':
		n, err := strconv.ParseInt(s, 10, 64)
		if err != nil {
			panic(err)
		}
		return lex.Tok{Kind: lex.Num, Text: s, N: n}
	case slices.Contains(marks, s):
		return lex.Tok{Kind: lex.Mark, Text: s}
	}
	return lex.Tok{Kind: lex.Name, Text: s}
}

var (
	allKinds  = []int{term.Num, term.Var, term.Fun, term.App, term.Let, term.If, term.While, term.Raise, term.Try, term.Get, term.Set, term.Op, term.Seq}
	operators = []string{"+", "-", "*", "<", "="}
	keywords  = []string{"fun", "let", "in", "if", "then", "else", "while", "do", "raise", "try", "with", "input", "cell", "def"}
	marks     = []string{"(", ")", ";", ":", "=", "=>", ":=", "!", "+", "-", "*", "<", "."}
)

func num(n int64) term.Term { return term.Term{Kind: term.Num, N: n} }

func v(name string) term.Term { return term.Term{Kind: term.Var, Name: name} }

func of(kind int, name string, kids ...term.Term) term.Term {
	return term.Term{Kind: kind, Name: name, Kids: kids}
}

// count tells how many Kids a right term of that Kind has.
func count(kind int) int {
	n := 0
	for _, kid := range []string{"0", "1", "2"} {
		n += strings.Count(patterns[kind], kid)
	}
	return n
}

// flat is a right term of that Kind, its Kids being numbers.
func flat(kind int) term.Term {
	t := of(kind, "")
	switch {
	case kind == term.Op:
		t.Name = "+"
	case strings.Contains(patterns[kind], "Name"):
		t.Name = "x"
	}
	for i := range count(kind) {
		t.Kids = append(t.Kids, num(int64(i)))
	}
	return t
}

// deep is a term of that depth and Kind, each level being Kid i of the one above it, the lowest a number.
func deep(kind, i, depth int) term.Term {
	t := num(7)
	for range depth - 1 {
		over := flat(kind)
		over.Kids[i] = t
		t = over
	}
	return t
}

// sized is a term of that size, of that Kind of two Kids where it can be, as flat as that allows.
func sized(size, kind int) term.Term {
	switch size {
	case 1:
		return num(1)
	case 2:
		return of(term.Get, "", num(1))
	}
	t := flat(kind)
	half := (size - 1) / 2
	t.Kids[0], t.Kids[1] = sized(half, kind), sized(size-1-half, kind)
	return t
}

// allOf tells all right terms of that size made of the heads, which have no Kids yet.
func allOf(size int, heads []term.Term) []term.Term {
	var all []term.Term
	for _, h := range heads {
		for _, kids := range rowsOf(count(h.Kind), size-1, heads) {
			h.Kids = kids
			all = append(all, h)
		}
	}
	return all
}

// rowsOf tells all rows of n right terms that have that size together.
func rowsOf(n, size int, heads []term.Term) [][]term.Term {
	if n == 0 && size == 0 {
		return [][]term.Term{nil}
	}
	if n == 0 || size < n {
		return nil
	}
	var all [][]term.Term
	for first := 1; first <= size-n+1; first++ {
		rest := rowsOf(n-1, size-first, heads)
		if len(rest) == 0 {
			continue
		}
		for _, t := range allOf(first, heads) {
			for _, r := range rest {
				all = append(all, append([]term.Term{t}, r...))
			}
		}
	}
	return all
}

// many is a right term in which there is one of each Kind.
func many() term.Term {
	return of(term.Let, "f", of(term.Fun, "x", of(term.Op, "-", v("x"), v("y"))), of(term.Try, "e",
		of(term.If, "", of(term.Get, "", v("c")), of(term.Raise, "", num(7)), of(term.App, "", v("f"), v("e"))),
		of(term.Seq, "", of(term.Set, "", v("c"), v("e")), of(term.While, "", of(term.Op, "<", v("x"), num(2)), of(term.App, "", v("f"), num(3))))))
}
