package scope_test

import (
	"fmt"
	"math/big"
	"slices"
	"strings"

	"chancel/api"
	"chancel/prog"
	"chancel/term"
)

// The model: the chapter's words, a term being the list of the ways to all terms in it.

var (
	allKinds  = []int{term.Num, term.Var, term.Fun, term.App, term.Let, term.If, term.While, term.Raise, term.Try, term.Get, term.Set, term.Op, term.Seq}
	rightKids = map[int]int{term.Fun: 1, term.App: 2, term.Let: 2, term.If: 3, term.While: 2, term.Raise: 1, term.Try: 2, term.Get: 1, term.Set: 2, term.Op: 2, term.Seq: 2}
)

func modelBinder(t term.Term) bool {
	return slices.Contains([]int{term.Fun, term.Let, term.Try}, t.Kind)
}

// modelWays tells the way to each term in t, to which that way leads, as the places of Kids, each ahead of those of its Kids.
func modelWays(t term.Term, way ...int) [][]int {
	ways := [][]int{way}
	for i, k := range t.Kids {
		ways = append(ways, modelWays(k, append(slices.Clone(way), i)...)...)
	}
	return ways
}

// modelAt tells the term to which that way leads.
func modelAt(t term.Term, way []int) term.Term {
	for _, i := range way {
		t = t.Kids[i]
	}
	return t
}

// modelNumber tells the number that is so many behind next, modulo 2^64.
func modelNumber(next, many int) string {
	n := big.NewInt(int64(next))
	n.Add(n, big.NewInt(int64(many)))
	if last := big.NewInt(1<<63 - 1); n.Cmp(last) > 0 {
		n.Sub(n, new(big.Int).Lsh(big.NewInt(1), 64))
	}
	return n.String()
}

// modelNames tells the name that each term in t is to have, in the order of modelWays, and how many binders there are.
func modelNames(t term.Term, next int) ([]string, int) {
	var names []string
	numbers := map[string]string{} // by the way to a binder
	for _, w := range modelWays(t) {
		x := modelAt(t, w)
		name := x.Name
		if modelBinder(x) {
			name = modelNumber(next, len(numbers))
			numbers[fmt.Sprint(w)] = name
		}
		if x.Kind == term.Var {
			if b, ok := modelBinds(t, w); ok {
				name = numbers[fmt.Sprint(b)]
			}
		}
		names = append(names, name)
	}
	return names, len(numbers)
}

// modelBinds tells the way to the innermost binder of the Name of the Var to which w leads, in the last Kid of which that stands.
func modelBinds(t term.Term, w []int) ([]int, bool) {
	along := []term.Term{t}
	for _, i := range w {
		t = t.Kids[i]
		along = append(along, t)
	}
	for n := len(w) - 1; n >= 0; n-- {
		b := along[n]
		if modelBinder(b) && b.Name == t.Name && w[n] == len(b.Kids)-1 {
			return w[:n], true
		}
	}
	return nil, false
}

// modelRename tells t renamed, and how many binders it has.
func modelRename(t term.Term, next int) (term.Term, int) {
	names, count := modelNames(t, next)
	u := copied(t)
	each(&u, func(x *term.Term) {
		x.Name = names[0]
		names = names[1:]
	})
	return u, count
}

// modelResolve tells p resolved, or the error.
func modelResolve(p prog.Prog) (prog.Prog, api.Errno) {
	if !prog.Right(p) {
		return prog.Prog{}, api.ErrArg
	}
	var names []string
	for _, d := range p.Inputs {
		names = append(names, d.Name)
	}
	for _, d := range p.Cells {
		names = append(names, d.Name)
	}
	ahead := len(names)
	for _, d := range p.Defs {
		names = append(names, d.Name)
	}
	for i, s := range names {
		if slices.Contains(names[i+1:], s) {
			return prog.Prog{}, api.ErrTwice
		}
	}
	terms := []term.Term{}
	for _, d := range p.Defs {
		terms = append(terms, d.T)
	}
	next := 1
	for i, t := range append(terms, p.Body) {
		for _, s := range term.Free(t) {
			if !slices.Contains(names[:ahead+i], s) {
				return prog.Prog{}, api.ErrName
			}
		}
		u, count := modelRename(t, next)
		next += count
		if i < len(terms) {
			terms[i] = u
		} else {
			p.Body = u
		}
	}
	p.Defs = slices.Clone(p.Defs)
	for i := range p.Defs {
		p.Defs[i].T = terms[i]
	}
	return p, api.OK
}

func num(n int64) term.Term { return term.Term{Kind: term.Num, N: n} }

func v(name string) term.Term { return term.Term{Kind: term.Var, Name: name} }

func of(kind int, name string, kids ...term.Term) term.Term {
	return term.Term{Kind: kind, Name: name, Kids: kids}
}

func fun(name string, body term.Term) term.Term { return of(term.Fun, name, body) }

// each hands in t and all terms in it, to be written into.
func each(t *term.Term, see func(t *term.Term)) {
	see(t)
	for i := range t.Kids {
		each(&t.Kids[i], see)
	}
}

// copied is t in memory of its own, which has room behind the Kids.
func copied(t term.Term) term.Term {
	kids := make([]term.Term, 0, len(t.Kids)+1)
	for _, k := range t.Kids {
		kids = append(kids, copied(k))
	}
	kids = append(kids, v("spare"))
	t.Kids = kids[:len(kids)-1]
	return t
}

// spared asks whether what stands behind all Kids is as copied left it.
func spared(t term.Term) bool {
	behind := t.Kids[:len(t.Kids)+1]
	return term.Same(behind[len(t.Kids)], v("spare")) && !slices.ContainsFunc(t.Kids, func(k term.Term) bool { return !spared(k) })
}

// rows tells all rows of terms that have that size together, made of the heads; fits tells which heads may have so many Kids.
func rows(size int, heads []term.Term, fits func(head term.Term, kids int) bool) [][]term.Term {
	if size == 0 {
		return [][]term.Term{nil}
	}
	var all [][]term.Term
	for first := 1; first <= size; first++ {
		rest := rows(size-first, heads, fits)
		for _, t := range allOf(first, heads, fits) {
			for _, r := range rest {
				all = append(all, append([]term.Term{t}, r...))
			}
		}
	}
	return all
}

// allOf tells all terms of that size made of the heads.
func allOf(size int, heads []term.Term, fits func(head term.Term, kids int) bool) []term.Term {
	var all []term.Term
	for _, kids := range rows(size-1, heads, fits) {
		for _, h := range heads {
			if fits(h, len(kids)) {
				h.Kids = kids
				all = append(all, h)
			}
		}
	}
	return all
}

func fitsAny(term.Term, int) bool { return true }

func fitsRight(head term.Term, kids int) bool { return kids == rightKids[head.Kind] }

// chain is a term in which so many stand one in another, each as Kid i, of n, of the one above it; at tells what each has beside these Kids, and the lowest with its own.
func chain(depth, n, i int, at func(depth int) term.Term) term.Term {
	t := at(depth)
	for d := depth - 1; d > 0; d-- {
		kids := make([]term.Term, n)
		for j := range kids {
			kids[j] = v("xyz"[j%3 : j%3+1])
		}
		kids[i] = t
		t = at(d)
		t.Kids = kids
	}
	return t
}

// heads has a term of each Kind, the names being x, if it has one, and no Kids.
func heads() []term.Term {
	var all []term.Term
	for _, kind := range allKinds {
		t := of(kind, "")
		switch {
		case kind == term.Var || modelBinder(t):
			t.Name = "x"
		case kind == term.Op:
			t.Name = "+"
		}
		all = append(all, t)
	}
	return all
}

// samples are right terms: great ones, deep ones, such of many kinds.
func samples() []term.Term {
	names := []string{"x", "y", "funx", strings.Repeat("q", 16)}
	var all []term.Term
	for n := range 2 {
		for i := range n + 1 {
			all = append(all, chain(200, n+1, i, func(depth int) term.Term {
				kinds := []int{term.Fun, term.Raise}
				if n == 1 {
					kinds = []int{term.Let, term.Try, term.Seq}
				}
				t := of(kinds[depth%len(kinds)], "")
				if modelBinder(t) {
					t.Name = names[depth%3]
				}
				if depth == 200 {
					return v("x")
				}
				return t
			}))
		}
	}
	var flat func(size int) term.Term
	flat = func(size int) term.Term {
		if size < 3 {
			return v(names[size%4])
		}
		return of([]int{term.Let, term.Try}[size%2], names[size%4], flat(size/2), flat(size-1-size/2))
	}
	many := of(term.Let, "f", fun("x", of(term.Op, "+", v("x"), v("y"))), of(term.Try, "e",
		of(term.If, "", of(term.Get, "", v("c")), of(term.Raise, "", num(7)), of(term.App, "", v("f"), v("e"))),
		of(term.Seq, "", of(term.Set, "", v("c"), v("e")), of(term.While, "", of(term.Op, "<", v("x"), num(2)), of(term.App, "", v("f"), num(3))))))
	return append(all, flat(9000), many, num(1<<31-1), v("Z9"))
}
