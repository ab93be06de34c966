package parse_test

import (
	"slices"
	"strings"
	"testing"

	"chancel/api"
	"chancel/lex"
	"chancel/parse"
	"chancel/show"
	"chancel/term"
)

// nest is a way in which a term stands in another without `(`: texts ahead of it and behind it, which make it deeper by one.
type nest struct{ ahead, behind string }

var nests = []nest{
	{"fun x =>", ""}, {"let x =", "in 1"}, {"let x = 1 in", ""}, {"if", "then 1 else 1"}, {"if 1 then", "else 1"}, {"if 1 then 1 else", ""}, {"while", "do 1"}, {"while 1 do", ""},
	{"raise", ""}, {"try", "with x => 1"}, {"try 1 with x =>", ""}, {"!", ""}, {"1 ;", ""}, {"1 :=", ""}, {"", "1"},
}

// of tells texts of tokens of which the core stands in k of the nest.
func (n nest) of(k int, core string) []string {
	return slices.Concat(slices.Repeat(strings.Fields(n.ahead), k), strings.Fields(core), slices.Repeat(strings.Fields(n.behind), k))
}

func open(n int) []string { return slices.Repeat([]string{"("}, n) }

func shut(n int) []string { return slices.Repeat([]string{")"}, n) }

// P5.2, P5.3: how deep a term may be, in whichever Kid.
func TestDepth(t *testing.T) {
	for _, kind := range allKinds {
		for i := range count(kind) {
			for _, depth := range []int{2, 199, 200} {
				isReadBack(t, deep(kind, i, depth))
			}
			for _, depth := range []int{201, 202, 300} {
				isNot(t, lean(deep(kind, i, depth), "E"), api.ErrLimit)
			}
			isNot(t, shown(deep(kind, i, 201)), api.ErrLimit)
		}
	}
	for _, n := range nests {
		for _, k := range []int{1, 150, 198, 199} {
			x, e := parse.Toks(toks(n.of(k, "x")))
			if e != api.OK || term.Depth(x) != k+1 || !term.Right(x) {
				t.Error(n, k, term.Depth(x), e)
			}
			is(t, slices.Concat(open(200), n.of(k, "x"), shut(200)), x)
		}
		isNot(t, n.of(200, "x"), api.ErrLimit)
		isNot(t, n.of(199, "( x + x )"), api.ErrLimit)
		isNot(t, n.of(2000, "x"), api.ErrLimit)
	}
}

// P5.2: how many `(` may be open, wherever that is, and that it is told ahead of what is no E.
func TestOpen(t *testing.T) {
	x := []string{"x"}
	for _, n := range []int{1, 2, 199, 200} {
		alone := slices.Concat(open(n), x, shut(n))
		is(t, alone, v("x"))
		is(t, slices.Concat(alone, alone, []string{";"}, alone), of(term.Seq, "", of(term.App, "", v("x"), v("x")), v("x")))
		isNot(t, open(n), api.ErrParse)
		isNot(t, alone[1:], api.ErrParse)
		isNot(t, alone[:2*n], api.ErrParse)
		isNot(t, slices.Concat(shut(3), open(n+3)), api.ErrParse)
		isNot(t, slices.Concat(open(n), shut(n)), api.ErrParse)
	}
	for _, n := range []int{201, 202, 300, 5000} {
		alone := slices.Concat(open(n), x, shut(n))
		isNot(t, alone, api.ErrLimit)
		isNot(t, open(n), api.ErrLimit)
		isNot(t, slices.Concat(open(n), shut(n)), api.ErrLimit)
		isNot(t, append(alone, ")", "+"), api.ErrLimit)
		isNot(t, slices.Concat([]string{"x", "+", "+"}, alone, x), api.ErrLimit)
		isNot(t, slices.Concat(shut(7), open(7+n)), api.ErrLimit)
		isNot(t, slices.Concat(shut(7), open(7+200)), api.ErrParse)
		isNot(t, slices.Concat(open(150), shut(149), open(n-1)), api.ErrLimit)
	}
	isNot(t, slices.Repeat([]string{"(", ")"}, 5000), api.ErrParse)
	isNot(t, slices.Repeat([]string{")", "("}, 5000), api.ErrParse)
	isNot(t, shut(5000), api.ErrParse)
	isNot(t, slices.Concat(slices.Repeat([]string{"(", "x", ")"}, 200), []string{"x"}), api.ErrLimit)
	isReadBack(t, deep(term.App, 0, 200))
	is(t, slices.Repeat([]string{"(", "7", ")"}, 2), of(term.App, "", num(7), num(7)))
}

// P5.2, P5.3: how great a term may be, and that what is no E is told ahead of that it is too great, or too deep.
func TestSize(t *testing.T) {
	for _, kind := range []int{term.App, term.Let, term.While, term.Try, term.Set, term.Op, term.Seq} {
		for _, size := range []int{9998, 9999, 10000} {
			isReadBack(t, sized(size, kind))
		}
		for _, size := range []int{10001, 10002, 10003, 20001} {
			texts := lean(sized(size, kind), "E")
			isNot(t, texts, api.ErrLimit)
			for _, ahead := range []string{"let x =", "if 1 then", "raise", "! (", "x := x + x"} {
				x, e := parse.Toks(toks(slices.Concat(strings.Fields(ahead+" let y = "), texts)))
				isWrong(t, ahead, x, e, api.ErrParse)
			}
			for _, behind := range []string{")", "+", ";", "1 )", "; fun", "; 1 +", "; raise", ". 1", "; let y = z in let y"} {
				x, e := parse.Toks(toks(append(slices.Clone(texts), strings.Fields(behind)...)))
				isWrong(t, behind, x, e, api.ErrParse)
			}
			x, e := parse.Toks(append(toks(texts), lex.Tok{}))
			isWrong(t, "not right", x, e, api.ErrParse)
			x, e = parse.Toks(toks(slices.Concat(texts, open(201))))
			isWrong(t, "open", x, e, api.ErrLimit)
		}
	}
	for _, n := range nests {
		isNot(t, append(n.of(1000, "7"), "+"), api.ErrParse)
		isNot(t, append(n.of(1000, "7"), ")"), api.ErrParse)
		isNot(t, n.of(1000, "; ;"), api.ErrParse)
		isNot(t, n.of(1000, "input"), api.ErrParse)
	}
}

// P5.2: each Kind as the one with which a term gets too great.
func TestSizeKinds(t *testing.T) {
	for _, kind := range allKinds {
		for over := range 5 {
			low := flat(kind)
			x := of(term.Seq, "", sized(api.MaxNodes-term.Size(low)-2+over, term.Seq), of(term.Get, "", low))
			if over == 0 {
				isReadBack(t, x)
			} else {
				isNot(t, lean(x, "E"), api.ErrLimit)
			}
		}
	}
}

// P1, P5.2: there may be more tokens in each other than a stack of calls has room for.
func TestHuge(t *testing.T) {
	const far = 6_000_000
	for _, n := range nests {
		k := far / 20
		if words := len(strings.Fields(n.ahead + " " + n.behind)); words < 3 {
			k = far / words
		}
		l := slices.Concat(slices.Repeat(toks(strings.Fields(n.ahead)), k), toks([]string{"7"}), slices.Repeat(toks(strings.Fields(n.behind)), k))
		x, e := parse.Toks(l)
		isWrong(t, n.ahead, x, e, api.ErrLimit)
		l[len(l)-1] = tok("def")
		x, e = parse.Toks(l)
		isWrong(t, n.ahead, x, e, api.ErrParse)
	}
	for s, want := range map[string]api.Errno{"(": api.ErrLimit, ")": api.ErrParse, "fun": api.ErrParse, "x": api.ErrLimit, "7": api.ErrLimit, "+": api.ErrParse, ".": api.ErrParse} {
		x, e := parse.Toks(slices.Repeat(toks([]string{s}), far))
		isWrong(t, s, x, e, want)
	}
}

// P1: tokens of great texts are looked at to the end.
func TestAnyToks(t *testing.T) {
	for kind := -1; kind <= 5; kind++ {
		for _, fill := range []string{"q", "9", "(", "fun", "\xff"} {
			w := lex.Tok{Kind: kind, Text: strings.Repeat(fill, 1<<20)}
			x, e := parse.Toks([]lex.Tok{tok("("), w, tok(")")})
			isWrong(t, fill, x, e, api.ErrParse)
		}
	}
	for _, l := range [][]lex.Tok{nil, {}} {
		x, e := parse.Toks(l)
		isWrong(t, show.Show(x), x, e, api.ErrParse)
	}
}
