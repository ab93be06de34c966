package term_test

import (
	"regexp"
	"slices"
	"strings"

	"chancel/term"
)

// The model: the chapter's sentences word for word, to hold the package against.

var (
	allKinds = []int{term.Num, term.Var, term.Fun, term.App, term.Let, term.If, term.While, term.Raise, term.Try, term.Get, term.Set, term.Op, term.Seq}

	keywords  = []string{"fun", "let", "in", "if", "then", "else", "while", "do", "raise", "try", "with", "input", "cell", "def"}
	operators = []string{"+", "-", "*", "<", "="}

	modelName = regexp.MustCompile(`^[a-zA-Z][a-zA-Z0-9]{0,15}$`)
)

// modelKids tells how many Kids a term of that Kind has; -1, if there is none of it.
func modelKids(kind int) int {
	for n, kinds := range [][]int{
		{term.Num, term.Var},
		{term.Fun, term.Raise, term.Get},
		{term.App, term.Let, term.While, term.Try, term.Set, term.Op, term.Seq},
		{term.If},
	} {
		if slices.Contains(kinds, kind) {
			return n
		}
	}
	return -1
}

func modelBinder(t term.Term) bool {
	return slices.Contains([]int{term.Fun, term.Let, term.Try}, t.Kind)
}

func modelSize(t term.Term) int {
	size := 1
	for _, k := range t.Kids {
		size += modelSize(k)
	}
	return size
}

func modelDepth(t term.Term) int {
	greatest := 0
	for _, k := range t.Kids {
		greatest = max(greatest, modelDepth(k))
	}
	return 1 + greatest
}

// modelHas asks whether t, but not yet its Kids, is as P3.1 says.
func modelHas(t term.Term) bool {
	n, name := t.N == 0, t.Name == ""
	if t.Kind == term.Num {
		n = t.N >= 0 && t.N <= 2147483647
	}
	if t.Kind == term.Var || modelBinder(t) {
		name = modelName.MatchString(t.Name) && !slices.Contains(keywords, t.Name)
	}
	if t.Kind == term.Op {
		name = slices.Contains(operators, t.Name)
	}
	return n && name && len(t.Kids) == modelKids(t.Kind)
}

func modelAllHave(t term.Term) bool {
	return modelHas(t) && !slices.ContainsFunc(t.Kids, func(k term.Term) bool { return !modelAllHave(k) })
}

func modelRight(t term.Term) bool {
	return modelAllHave(t) && modelDepth(t) <= 200 && modelSize(t) <= 10000
}

func modelSame(a, b term.Term) bool {
	return a.Kind == b.Kind && a.Name == b.Name && a.N == b.N && slices.EqualFunc(a.Kids, b.Kids, modelSame)
}

// modelFree tells the names of Vars in t that stand in no last Kid of a binder of that Name, those of over being such ones.
func modelFree(t term.Term, over ...string) []string {
	var all []string
	if t.Kind == term.Var && !slices.Contains(over, t.Name) {
		all = append(all, t.Name)
	}
	for i, k := range t.Kids {
		if modelBinder(t) && i == len(t.Kids)-1 {
			over = append(slices.Clone(over), t.Name)
		}
		all = append(all, modelFree(k, over...)...)
	}
	slices.Sort(all)
	return slices.Compact(all)
}

func num(n int64) term.Term { return term.Term{Kind: term.Num, N: n} }

func v(name string) term.Term { return term.Term{Kind: term.Var, Name: name} }

func of(kind int, name string, kids ...term.Term) term.Term {
	return term.Term{Kind: kind, Name: name, Kids: kids}
}

// nameOf tells a right name for that Kind.
func nameOf(kind int) string {
	switch kind {
	case term.Var, term.Fun, term.Let, term.Try:
		return "x"
	case term.Op:
		return "+"
	}
	return ""
}

// flat is a right term of that Kind, its Kids being numbers.
func flat(kind int) term.Term {
	t := of(kind, nameOf(kind))
	for i := range modelKids(kind) {
		t.Kids = append(t.Kids, num(int64(i)))
	}
	return t
}

// sized is a right term of that size that is as flat as two Kids allow.
func sized(size int) term.Term {
	switch size {
	case 1:
		return num(1)
	case 2:
		return of(term.Get, "", num(1))
	}
	half := (size - 1) / 2
	return of(term.Seq, "", sized(half), sized(size-1-half))
}

// chain is a term in which so many stand one in another, each as Kid i, of n, of the one above it; at tells what each has beside these Kids, and the lowest with its own.
func chain(depth, n, i int, at func(depth int) term.Term) term.Term {
	t := at(depth)
	for d := depth - 1; d > 0; d-- {
		kids := make([]term.Term, n)
		for j := range kids {
			kids[j] = num(int64(j))
		}
		kids[i] = t
		t = at(d)
		t.Kids = kids
	}
	return t
}

// each hands in t and all terms in it, to be written into.
func each(t *term.Term, see func(t *term.Term)) {
	see(t)
	for i := range t.Kids {
		each(&t.Kids[i], see)
	}
}

// copied is t in memory of its own, which has room behind the Kids.
func copied(t term.Term) term.Term {
	kids := make([]term.Term, 0, len(t.Kids)+1)
	for _, k := range t.Kids {
		kids = append(kids, copied(k))
	}
	kids = append(kids, v("spare"))
	t.Kids = kids[:len(kids)-1]
	return t
}

// spared asks whether what stands behind all Kids is as copied left it.
func spared(t term.Term) bool {
	behind := t.Kids[:len(t.Kids)+1]
	return modelSame(behind[len(t.Kids)], v("spare")) && !slices.ContainsFunc(t.Kids, func(k term.Term) bool { return !spared(k) })
}

// allOf tells all terms of that size made of the heads, whatever Kids these have.
func allOf(size int, heads []term.Term) []term.Term {
	var all []term.Term
	for _, kids := range rows(size-1, heads) {
		for _, h := range heads {
			h.Kids = kids
			all = append(all, h)
		}
	}
	return all
}

// rows tells all rows of terms that have that size together.
func rows(size int, heads []term.Term) [][]term.Term {
	if size == 0 {
		return [][]term.Term{nil}
	}
	var all [][]term.Term
	for first := 1; first <= size; first++ {
		rest := rows(size-first, heads)
		for _, t := range allOf(first, heads) {
			for _, r := range rest {
				all = append(all, append([]term.Term{t}, r...))
			}
		}
	}
	return all
}

// samples are right terms: of each Kind, and of many together.
func samples() []term.Term {
	all := []term.Term{num(0), num(1<<31 - 1), v("y"), v("Z9"), v("funx"), v(strings.Repeat("q", 16))}
	for _, kind := range allKinds {
		all = append(all, flat(kind))
	}
	for _, op := range operators {
		all = append(all, of(term.Op, op, v("a"), v("b")))
	}
	many := of(term.Let, "f", of(term.Fun, "x", of(term.Op, "+", v("x"), v("y"))), of(term.Try, "e",
		of(term.If, "", of(term.Get, "", v("c")), of(term.Raise, "", num(7)), of(term.App, "", v("f"), v("e"))),
		of(term.Seq, "", of(term.Set, "", v("c"), v("e")), of(term.While, "", of(term.Op, "<", v("x"), num(2)), of(term.App, "", v("f"), num(3))))))
	deep := chain(200, 1, 0, func(depth int) term.Term {
		if depth == 200 {
			return v("x")
		}
		return of(term.Fun, "x")
	})
	return append(all, many, sized(10000), deep)
}
