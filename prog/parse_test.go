package prog_test

import (
	"slices"
	"strings"
	"testing"

	"chancel/api"
	"chancel/parse"
	"chancel/prog"
	"chancel/show"
	"chancel/term"
)

// asModel holds what s is parsed as against the model, and tells the error.
func asModel(t *testing.T, s string) api.Errno {
	t.Helper()
	want, no := modelParse(s)
	p, e := prog.Parse(s)
	if e != no || key(p) != key(want) {
		t.Fatalf("%.200q: %.200q, %d, not %.200q, %d", s, prog.Print(p), e, prog.Print(want), no)
	}
	if e != api.OK {
		return e
	}
	if long := len(modelText(p)) > api.MaxText; prog.Right(p) == long || (prog.Print(p) == "") != long {
		t.Fatalf("%.200q: right %t", s, prog.Right(p))
	}
	return e
}

// isError asks whether s is told as that error alone.
func isError(t *testing.T, s string, want api.Errno) {
	t.Helper()
	p, e := prog.Parse(s)
	if e != want || key(p) != key(prog.Prog{}) {
		t.Fatalf("%.200q: %.200q, %d, not %d", s, prog.Print(p), e, want)
	}
	if asModel(t, s) != want {
		t.Fatalf("%.200q: the model tells it otherwise", s)
	}
}

// P6.3: programs to the letter.
func TestParse(t *testing.T) {
	one := prog.Prog{Inputs: []prog.Decl{{Name: "x", Label: "Lo"}}, Body: v("x")}
	for s, want := range map[string]prog.Prog{
		"input x : Lo . x": one, "input x:Lo.x": one, "\n input x # a remark . 1\n:\nLo .\nx # . ": one,
		someText: some(), strings.ReplaceAll(someText, "\n", " "): some(),
		"input h:Hi.input l:Lo.cell c:Hi=7.cell d:Lo=0.def f=fun x=>x+1.def g=fun x=>fun y=>f.c:=h;g l": some(),
		"1": {Body: num(1)}, "(((1)))": {Body: num(1)}, "fun x => x": {Body: of(term.Fun, "x", v("x"))},
		"input a : A . input a : A . a":                         {Inputs: []prog.Decl{{Name: "a", Label: "A"}, {Name: "a", Label: "A"}}, Body: v("a")},
		"cell c : A = 2147483647 . cell e : B = 0 . !c":         {Cells: []prog.Decl{{Name: "c", Label: "A", N: 1<<31 - 1}, {Name: "e", Label: "B"}}, Body: of(term.Get, "", v("c"))},
		"input a : a . cell a : a = 1 . def a = fun a => a. a":  {Inputs: []prog.Decl{{Name: "a", Label: "a"}}, Cells: []prog.Decl{{Name: "a", Label: "a", N: 1}}, Defs: []prog.Def{{Name: "a", T: of(term.Fun, "a", v("a"))}}, Body: v("a")},
		"def f = (fun x => x) . def g = ((fun y => f ; y)) . f": {Defs: []prog.Def{{Name: "f", T: of(term.Fun, "x", v("x"))}, {Name: "g", T: of(term.Fun, "y", of(term.Seq, "", v("f"), v("y")))}}, Body: v("f")},
		"def f = fun x => let y = x in y = x . f = f":           {Defs: []prog.Def{{Name: "f", T: of(term.Fun, "x", of(term.Let, "y", v("x"), of(term.Op, "=", v("y"), v("x"))))}}, Body: of(term.Op, "=", v("f"), v("f"))},
	} {
		p, e := prog.Parse(s)
		if e != api.OK || !prog.Same(p, want) || key(p) != key(want) {
			t.Errorf("%q: %q, %d", s, prog.Print(p), e)
		}
		asModel(t, s)
	}
}

// P6.3: what is none, though it nearly is.
func TestWrong(t *testing.T) {
	for _, s := range []string{
		"", " ", "# 1", ".", "1 .", ". 1", "1 . 1", ". .", "x . x", "( . ) 1", "(1 . 1)", "?", "1 ?", "input x : Lo . x ?",
		"input", "input .", "input . 1", "input x . 1", "input x : . 1", "input : Lo . 1", "input x Lo . 1", "input x : Lo", "input x : Lo 1", "input x : Lo .", "input x : Lo ; 1", "input x : Lo . . x", "input x = Lo . 1", "input x := Lo . 1", "input x : 1 . 1", "input 1 : Lo . 1", "input in : Lo . 1", "input x : in . 1", "input input : Lo . 1", "input x : Lo = 1 . 1", "input x : Lo Lo . 1", "input x x : Lo . 1", "input : x Lo . 1", "(input x : Lo) . 1", "input (x : Lo) . 1", "input (x) : Lo . 1", "x : Lo . 1", "1 input x : Lo . 1", "input x : Lo . input x : Lo", "inputs x : Lo . 1", "Input x : Lo . 1", "in x : Lo . 1",
		"cell", "cell .", "cell . 1", "cell c . 1", "cell c : A . 1", "cell c : A = . 1", "cell c : A = x . 1", "cell c : A = ! x . 1", "cell c : A = 1 2 . 1", "cell c : A = (1) . 1", "cell c : A = - 1 . 1", "cell c : A 1 . 1", "cell c : A := 1 . 1", "cell c : A : 1 . 1", "cell c = A = 1 . 1", "cell c A = 1 . 1", "cell : A = 1 . 1", "cell c : = 1 . 1", "cell 1 : A = 1 . 1", "cell c : 1 = 1 . 1", "cell def : A = 1 . 1", "cell c : cell = 1 . 1", "cell c : A = 1", "cell c : A = 1 .", "cell c : A = 2147483648 . 1", "cell c : A = 01 . 1", "c : A = 1 . 1", "cells c : A = 1 . 1",
		"def", "def .", "def . 1", "def f . 1", "def f = . 1", "def f = f . 1", "def f = 1 . 1", "def f = fun . 1", "def f = fun x . 1", "def f = fun x => . 1", "def f = fun x => x x + . 1", "def f fun x => x . 1", "def f := fun x => x . 1", "def f : fun x => x . 1", "def = fun x => x . 1", "def 1 = fun x => x . 1", "def def = fun x => x . 1", "def f x = x . 1", "def f = (fun x => x) x . 1", "def f = fun x => x", "def f = fun x => x .", "def f = let x = 1 in fun x => x . f", "def f = 1 ; fun x => x . f", "def f = (fun x => x) ; 1 . f", "def f = def g = fun x => x . f", "def f = input x : A . f", "f = fun x => x . f", "defs f = fun x => x . f",
		"cell c : A = 1 . input x : A . x", "def f = fun x => x . input x : A . x", "def f = fun x => x . cell c : A = 1 . x", "cell c : A = 1 . def f = fun x => x . input x : A . x", "cell c : A = 1 . def f = fun x => x . cell c : A = 1 . x", "input x : A . cell c : A = 1 . input x : A . x",
		"input x : A . input y : B", "input x : A . cell y : B = 1", "input x : A . def", "input x : A . in", "input x : A . x y +", "input x : A . x )",
	} {
		isError(t, s, api.ErrParse)
		isError(t, "input z : Z . "+s, api.ErrParse)
	}
}

// P6.3, P6.4: all rows of few pieces.
func TestAllPieces(t *testing.T) {
	pieces := []string{"", "input a : A", "input b : 1", "input b : B = 1", "cell c : C = 1", "cell c : C", "cell d : D = 2", "def f = fun x => x", "def g = 1", "def g = (fun x => fun y => y)", "def g =", "def f = fun x => x +", "x", "1 ; y", "(", "1 :"}
	right := 0
	for n := 1; n <= 4; n++ {
		strung(n, pieces, func(row []string) {
			if asModel(t, strings.Join(row, " . ")) == api.OK {
				right++
			}
		})
	}
	few := []string{"input a : A", "cell c : C = 1", "cell d : D = 2", "def f = fun x => x", "def g = (fun x => fun y => y)", "x"}
	for n := 5; n <= 6; n++ {
		strung(n, few, func(row []string) {
			if asModel(t, strings.Join(row, ".")) == api.OK {
				right++
			}
		})
	}
	if right < 400 {
		t.Error(right)
	}
}

// P6.3: all rows of few tokens as one piece, and as the last one.
func TestAllRows(t *testing.T) {
	all := []string{"input", "cell", "def", "x", ":", "=", "1", ".", "fun", "=>", ":=", "("}
	for n := range 5 {
		strung(n, all, func(row []string) {
			s := strings.Join(row, " ")
			asModel(t, s+" . 1")
			asModel(t, s)
		})
	}
	for _, c := range []struct {
		n     int
		words []string
	}{{5, []string{"input", "x", ":", "=", "1"}}, {6, []string{"cell", "x", ":", "=", "1"}}, {7, []string{"cell", "x", ":", "="}}, {7, []string{"def", "x", "=", "fun", "=>"}}} {
		strung(c.n, c.words, func(row []string) { asModel(t, strings.Join(row, " ")+" . 1") })
	}
}

// P6.3: all that differs from a program in one token.
func TestOneToken(t *testing.T) {
	texts := strings.Fields(someText)
	others := append([]string{"x", "0", "2147483647", "(", ")", ";", ":", "=", "=>", ":=", "!", "+", "-", "*", "<", ".", "?"}, keywords...)
	for i := range texts {
		asModel(t, strings.Join(slices.Delete(slices.Clone(texts), i, i+1), " "))
		for _, other := range others {
			asModel(t, strings.Join(slices.Insert(slices.Clone(texts), i, other), " "))
			asModel(t, strings.Join(slices.Replace(slices.Clone(texts), i, i+1, other), " "))
		}
	}
	for i := range someText {
		asModel(t, someText[:i])
		asModel(t, someText[i:])
	}
}

const (
	anInput = "input a : A . "
	aCell   = "cell c : A = 1 . "
	aDef    = "def f = fun x => x . "
)

// P6.3: how many there may be of each kind, and of all.
func TestLimits(t *testing.T) {
	for _, piece := range []string{anInput, aCell, aDef} {
		for _, n := range []int{31, 32} {
			if asModel(t, strings.Repeat(piece, n)+"1") != api.OK {
				t.Errorf("%d times %s", n, piece)
			}
		}
		for _, n := range []int{33, 34, 96, 97, 98, 200} {
			isError(t, strings.Repeat(piece, n)+"1", api.ErrLimit)
		}
	}
	most := strings.Repeat(anInput, 32) + strings.Repeat(aCell, 32) + strings.Repeat(aDef, 32)
	p, e := prog.Parse(most + "1")
	if e != api.OK || len(p.Inputs) != 32 || len(p.Cells) != 32 || len(p.Defs) != 32 || !prog.Right(p) {
		t.Error(e)
	}
	isError(t, most+"1 . 1", api.ErrLimit)
	isError(t, most, api.ErrParse)
	for _, n := range []int{1, 2, 95, 96} {
		isError(t, strings.Repeat(". ", n)+"1", api.ErrParse)
		isError(t, strings.Repeat(".", n), api.ErrParse)
	}
	for _, n := range []int{97, 98, 1000, 65536} {
		isError(t, strings.Repeat(".", n), api.ErrLimit)
	}
	isError(t, strings.Repeat(".", 65537), api.ErrLimit)
	isError(t, strings.Repeat(".", 97)+"?", api.ErrParse)
	isError(t, "x # "+strings.Repeat(".", 97)+"\n.", api.ErrParse)
}

// P6.3: of several errors that of the first piece is told, and of a piece the one that is named first.
func TestFirstError(t *testing.T) {
	deep := strings.Repeat("!", 200) + "x"
	for s, want := range map[string]api.Errno{
		// A piece beyond the limit that is also none of its kind.
		strings.Repeat(anInput, 32) + "input a : 1 . 1": api.ErrParse, strings.Repeat(aCell, 32) + "cell c : A . 1": api.ErrParse, strings.Repeat(aDef, 32) + "def f = 1 . 1": api.ErrParse, strings.Repeat(aDef, 32) + "def f = fun x => . 1": api.ErrParse,
		strings.Repeat(anInput, 32) + aCell + anInput + "1": api.ErrParse, strings.Repeat(anInput, 32) + aDef + anInput + "1": api.ErrParse, strings.Repeat(aCell, 32) + aDef + aCell + "1": api.ErrParse,
		strings.Repeat(anInput, 32) + aCell + "input a : A": api.ErrParse,
		// What is wrong ahead of the limit, and behind it.
		"x . " + strings.Repeat(anInput, 33) + "1": api.ErrParse, strings.Repeat(anInput, 33) + "x . 1": api.ErrLimit, strings.Repeat(anInput, 33): api.ErrLimit, strings.Repeat(aCell, 33) + ". 1": api.ErrLimit, strings.Repeat(aDef, 33) + "(": api.ErrLimit,
		strings.Repeat(anInput, 20) + ". " + strings.Repeat(anInput, 13) + "1": api.ErrParse, strings.Repeat(aCell, 33) + anInput + "1": api.ErrLimit,
		// A definition's own errors.
		"def f = " + deep + " . 1": api.ErrLimit, "def f = fun x => " + deep + " . 1": api.ErrLimit, "def f = fun x => " + deep + " . .": api.ErrLimit, "def f = fun x => " + deep[2:] + " . 1": api.OK, "def f = fun x => " + deep[1:] + " . 1": api.ErrLimit,
		"def f = 1 . def f = fun x => " + deep + " . 1": api.ErrParse, "def f = fun x => " + deep + " . def f = 1 . 1": api.ErrLimit, "def f = " + strings.Repeat("(", 201) + " . 1": api.ErrLimit, "def f = ( . " + strings.Repeat("(", 201): api.ErrParse, "def 1 = " + deep + " . 1": api.ErrParse, "def f " + strings.Repeat("(", 201) + " . 1": api.ErrParse,
		// The body's own, behind all.
		deep: api.ErrLimit, deep[1:]: api.OK, strings.Repeat("(", 201): api.ErrLimit, strings.Repeat("(", 200): api.ErrParse, ". " + deep: api.ErrParse, aDef + deep: api.ErrLimit, aDef + "def g = x . " + deep: api.ErrParse, strings.Repeat(aDef, 33) + "x +": api.ErrLimit, "def f = fun x => " + deep + " . x +": api.ErrLimit,
		// The text's own, ahead of all.
		strings.Repeat(anInput, 33) + "?": api.ErrParse, deep + " ?": api.ErrParse, "? " + strings.Repeat(". ", 97): api.ErrParse, strings.Repeat(" ", 65536) + "1": api.ErrLimit, strings.Repeat(" ", 65535) + "1": api.OK, "x . " + strings.Repeat(" ", 65536): api.ErrLimit, strings.Repeat("?", 65537): api.ErrLimit, strings.Repeat("?", 65536): api.ErrParse,
		// The limit of all pieces, ahead of each.
		"x ." + strings.Repeat(anInput, 96) + "1": api.ErrLimit, "x ." + strings.Repeat(anInput, 95) + "1": api.ErrParse, strings.Repeat(". ", 97) + deep: api.ErrLimit, strings.Repeat(". ", 96) + deep: api.ErrParse,
	} {
		if want == api.OK {
			if got := asModel(t, s); got != api.OK {
				t.Errorf("%.200q: %d", s, got)
			}
			continue
		}
		isError(t, s, want)
	}
	wide := strings.Repeat("((1;1);(1;1));", 1250)
	isError(t, "def f = fun x => ("+wide+"1) . 1", api.ErrLimit)
	isError(t, wide+"1", api.ErrLimit)
}

// P6.4: what is printed is parsed, its spaces being left out where they can be; what is parsed of that may have too long a print.
func TestLongPrint(t *testing.T) {
	for _, length := range []int{65500, 65535, 65536, 65537, 65540, 70000} {
		p := filled(t, length)
		s := modelText(p)
		for _, mark := range []string{"(", ")", ";", "!", ".", "=", "=>"} {
			s = strings.ReplaceAll(strings.ReplaceAll(s, " "+mark, mark), mark+" ", mark)
		}
		back, e := prog.Parse(s)
		if len(s) > api.MaxText || e != api.OK || !prog.Same(back, p) || prog.Right(back) != (length <= api.MaxText) {
			t.Error(length, len(s), e)
		}
		asModel(t, s)
	}
	isError(t, modelText(filled(t, 65537)), api.ErrLimit)
}

// P6.3: each term of a definition and of a body is what parse tells of it.
func TestTerms(t *testing.T) {
	for _, s := range []string{"fun x => x", "fun x => x ; y", "fun x => let y = x in y", "fun x => if x then 1 else 2", "fun x => while !x do x := 1", "fun x => raise x", "fun x => try x with y => y = x", "(fun x => fun y => x < y)", "fun x => x y z"} {
		want, _ := parse.Parse(s)
		p, e := prog.Parse("def f = " + s + " . " + s)
		if e != api.OK || !term.Same(p.Defs[0].T, want) || !term.Same(p.Body, want) || !holds(t, p) {
			t.Errorf("%q: %q, %d", show.Show(want), prog.Print(p), e)
		}
	}
}

// P1: any text may be handed in.
func TestAnyText(t *testing.T) {
	parts := []string{"input", "cell", "def", "fun", "in", "x", "7", ":", "=", "=>", ":=", ".", "(", ")", ";", "!", "+", "#", "\n", " ", "\t", "\x00", "\xff", "é", "99999999999999999999", "0", "a b c", anInput, aCell, aDef, strings.Repeat("a", 17)}
	state := uint64(7)
	for range 30000 {
		var b strings.Builder
		state = state*6364136223846793005 + 1442695040888963407
		for range state>>33%30 + 1 {
			state = state*6364136223846793005 + 1442695040888963407
			b.WriteString(parts[state>>33%uint64(len(parts))])
			if state>>60 > 2 {
				b.WriteByte(' ')
			}
		}
		asModel(t, b.String())
	}
}

// P3, P4: what is told is new memory, and the same is told again.
func TestParsedIsNew(t *testing.T) {
	p, _ := prog.Parse(someText)
	for range 3 {
		q, e := prog.Parse(someText)
		if e != api.OK || key(q) != key(some()) {
			t.Fatal(prog.Print(q), e)
		}
		_, _, _ = append(q.Inputs, prog.Decl{}), append(q.Cells, prog.Decl{}), append(q.Defs, prog.Def{})
		q.Inputs[0], q.Cells[1], q.Defs[1].T.Kids[0], q.Body.Kids[0] = prog.Decl{}, prog.Decl{}, num(3), num(4)
		if key(p) != key(some()) {
			t.Fatal("is shared")
		}
	}
}
