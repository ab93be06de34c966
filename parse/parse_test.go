package parse_test

import (
	"maps"
	"math"
	"slices"
	"strings"
	"testing"

	"chancel/api"
	"chancel/lex"
	"chancel/parse"
	"chancel/show"
	"chancel/term"
)

// is asks whether the texts of tokens are that term, whichever way they are handed in.
func is(t *testing.T, texts []string, want term.Term) {
	t.Helper()
	s := strings.Join(texts, " ")
	x, e := parse.Toks(toks(texts))
	if e != api.OK || !term.Same(x, want) || !term.Right(x) {
		t.Fatalf("%.200q: %.200s, %d", s, show.Show(x), e)
	}
	x, e = parse.Parse(s)
	if len(s) > api.MaxText {
		isWrong(t, s, x, e, api.ErrLimit)
		return
	}
	if e != api.OK || !term.Same(x, want) || !term.Right(x) {
		t.Fatalf("%.200q: %.200s, %d", s, show.Show(x), e)
	}
}

// isNot asks whether the texts of tokens are told as that error.
func isNot(t *testing.T, texts []string, want api.Errno) {
	t.Helper()
	s := strings.Join(texts, " ")
	x, e := parse.Toks(toks(texts))
	isWrong(t, s, x, e, want)
	x, e = parse.Parse(s)
	if len(s) > api.MaxText {
		want = api.ErrLimit
	}
	isWrong(t, s, x, e, want)
}

// isWrong asks whether what was told of s is that error alone.
func isWrong(t *testing.T, s string, x term.Term, e, want api.Errno) {
	t.Helper()
	if e != want || !term.Same(x, term.Term{}) {
		t.Fatalf("%.200q: %.200s, %d, not %d", s, show.Show(x), e, want)
	}
}

// P5.1: each way of the grammar to the letter, as terms.
func TestTerms(t *testing.T) {
	x, y, z := v("x"), v("y"), v("z")
	for s, want := range map[string]term.Term{
		"0": num(0), "2147483647": num(1<<31 - 1), "x": x, "Z9": v("Z9"), "((x))": x, strings.Repeat("q", 16): v(strings.Repeat("q", 16)),
		"fun x => y": of(term.Fun, "x", y), "fun x => x ; y": of(term.Fun, "x", of(term.Seq, "", x, y)), "fun x => fun y => z": of(term.Fun, "x", of(term.Fun, "y", z)), "fun x => x := y": of(term.Fun, "x", of(term.Set, "", x, y)),
		"let x = y in z": of(term.Let, "x", y, z), "let x = y ; 1 in z ; 2": of(term.Let, "x", of(term.Seq, "", y, num(1)), of(term.Seq, "", z, num(2))), "let x = y = z in x": of(term.Let, "x", of(term.Op, "=", y, z), x),
		"let x = let y = 1 in 2 in let z = 3 in 4": of(term.Let, "x", of(term.Let, "y", num(1), num(2)), of(term.Let, "z", num(3), num(4))),
		"if x then y else z":                       of(term.If, "", x, y, z), "if x ; 1 then y ; 2 else z ; 3": of(term.If, "", of(term.Seq, "", x, num(1)), of(term.Seq, "", y, num(2)), of(term.Seq, "", z, num(3))),
		"if if 1 then 2 else 3 then if 4 then 5 else 6 else if 7 then 8 else 9": of(term.If, "", of(term.If, "", num(1), num(2), num(3)), of(term.If, "", num(4), num(5), num(6)), of(term.If, "", num(7), num(8), num(9))),
		"while x do y": of(term.While, "", x, y), "while x ; 1 do y ; 2": of(term.While, "", of(term.Seq, "", x, num(1)), of(term.Seq, "", y, num(2))), "while while 1 do 2 do while 3 do 4": of(term.While, "", of(term.While, "", num(1), num(2)), of(term.While, "", num(3), num(4))),
		"raise x": of(term.Raise, "", x), "raise x ; y": of(term.Seq, "", of(term.Raise, "", x), y), "raise x y": of(term.Raise, "", of(term.App, "", x, y)), "raise x + y": of(term.Raise, "", of(term.Op, "+", x, y)), "raise x := y": of(term.Raise, "", of(term.Set, "", x, y)),
		"raise fun x => y ; z": of(term.Raise, "", of(term.Fun, "x", of(term.Seq, "", y, z))), "raise raise 1": of(term.Raise, "", of(term.Raise, "", num(1))),
		"try x with y => z": of(term.Try, "y", x, z), "try x ; 1 with y => z ; 2": of(term.Try, "y", of(term.Seq, "", x, num(1)), of(term.Seq, "", z, num(2))), "try try 1 with x => 2 with y => try 3 with z => 4": of(term.Try, "y", of(term.Try, "x", num(1), num(2)), of(term.Try, "z", num(3), num(4))),
		"x := y": of(term.Set, "", x, y), "x := y ; z": of(term.Seq, "", of(term.Set, "", x, y), z), "x := y := z": of(term.Set, "", x, of(term.Set, "", y, z)), "x y := z": of(term.Set, "", of(term.App, "", x, y), z), "x := y + z": of(term.Set, "", x, of(term.Op, "+", y, z)), "x := raise y": of(term.Set, "", x, of(term.Raise, "", y)), "x := fun y => z ; 1": of(term.Set, "", x, of(term.Fun, "y", of(term.Seq, "", z, num(1)))), "! x := 1": of(term.Set, "", of(term.Get, "", x), num(1)),
		"x + y": of(term.Op, "+", x, y), "x - y": of(term.Op, "-", x, y), "x * y": of(term.Op, "*", x, y), "x < y": of(term.Op, "<", x, y), "x = y": of(term.Op, "=", x, y), "x y + y z": of(term.Op, "+", of(term.App, "", x, y), of(term.App, "", y, z)), "x - (y - z)": of(term.Op, "-", x, of(term.Op, "-", y, z)), "(x - y) - z": of(term.Op, "-", of(term.Op, "-", x, y), z), "x = y ; z": of(term.Seq, "", of(term.Op, "=", x, y), z),
		"x y": of(term.App, "", x, y), "x y z": of(term.App, "", of(term.App, "", x, y), z), "x (y z)": of(term.App, "", x, of(term.App, "", y, z)), "1 2": of(term.App, "", num(1), num(2)), "x ! y": of(term.App, "", x, of(term.Get, "", y)), "x(y)1": of(term.App, "", of(term.App, "", x, y), num(1)), "(fun x => x) y": of(term.App, "", of(term.Fun, "x", x), y),
		"! x": of(term.Get, "", x), "! 1": of(term.Get, "", num(1)), "! ! x": of(term.Get, "", of(term.Get, "", x)), "! x y": of(term.App, "", of(term.Get, "", x), y), "! (x y)": of(term.Get, "", of(term.App, "", x, y)), "! x ! y": of(term.App, "", of(term.Get, "", x), of(term.Get, "", y)),
		"x ; y": of(term.Seq, "", x, y), "x ; y ; z": of(term.Seq, "", x, of(term.Seq, "", y, z)), "(x ; y) ; z": of(term.Seq, "", of(term.Seq, "", x, y), z), "x ; fun y => y ; z": of(term.Seq, "", x, of(term.Fun, "y", of(term.Seq, "", y, z))),
		" x # y\n# z\n ; y": of(term.Seq, "", x, y),
		"let f = fun x => x - y in try if !c then raise 7 else f e with e => c := e ; while x < 2 do f 3": many(),
	} {
		got, e := parse.Parse(s)
		if e != api.OK || !term.Same(got, want) || !term.Right(got) {
			t.Errorf("%q: %s, %d", s, show.Show(got), e)
		}
	}
}

// P5.1, P5.2: what is no E, though it nearly is.
func TestWrong(t *testing.T) {
	for _, s := range []string{
		"", " ", "# x", "(", ")", "( )", ") (", "( x", "x )", "( x ) )", "( ( x )", "x ( )", "( x ;)", "; x", "x ;", "x ; ; y", ";",
		"fun", "fun x", "fun x =>", "fun x x", "fun x = x", "fun => x", "fun 1 => x", "fun in => x", "fun x y => x", "fun ( x ) => x", "fun x => )", "fun fun => x",
		"let", "let x", "let x =", "let x = 1", "let x = 1 in", "let x => 1 in 2", "let x := 1 in 2", "let x 1 in 2", "let 1 = 1 in 2", "let = 1 in 2", "let x = in 2", "let x = 1 ; in 2", "let x = 1 in 2 in 3", "let let = 1 in 2", "let x = 1 then 2",
		"if", "if 1", "if 1 then", "if 1 then 2", "if 1 then 2 else", "if 1 else 2", "if then 1 else 2", "if 1 then else 2", "if 1 then 2 else 3 else 4", "if 1 do 2", "if 1 then 2 then 3", "if 1 then 2 in 3",
		"while", "while 1", "while 1 do", "while do 1", "while 1 then 2", "while 1 do 2 do 3",
		"raise", "raise ;", "raise )", "x raise 1", "x + raise 1", "! raise 1",
		"try", "try 1", "try 1 with", "try 1 with x", "try 1 with x =>", "try with x => 1", "try 1 with => 2", "try 1 with 2 => 3", "try 1 with x = 2", "try 1 with x => 2 with y => 3", "try 1 with x 2", "try 1 x => 2",
		":=", "x :=", ":= x", "x := := y", "x + y := z", "x := y + z + x", "x = y := z", "x := ; y", "fun x => x )",
		"+", "x +", "+ x", "- 1", "x + y + z", "x - y - z", "x < y < z", "x = y = z", "x * y + z", "x + + y", "x + ; y", "x + fun y => z", "x + if 1 then 2 else 3", "x + ! ", "x + ( )",
		"!", "! !", "! + x", "x !", "! fun x => x", "! ; x", "x fun y => y", "x let y = 1 in 2", "x if 1 then 2 else 3",
		"x : y", "x . y", "x .", ":", ".", "=>", "x => y", "input", "cell", "def", "input x", "x def", "in", "then", "else", "do", "with", "x in y", "1 else 2", "x with y",
		"?", "x y_", "00", "2147483648", strings.Repeat("q", 17), "x > y", "x\ty", "(\xff)",
	} {
		x, e := parse.Parse(s)
		isWrong(t, s, x, e, api.ErrParse)
		if s = "x := ( " + s + " )"; !strings.Contains(s, "#") && s != "x := ( ) ( )" {
			x, e = parse.Parse(s)
			isWrong(t, s, x, e, api.ErrParse)
		}
	}
}

// P5.1, P5.2, P5.3: all rows of few tokens, held against the grammar as it stands in the chapter.
func TestAllRows(t *testing.T) {
	known := sentences(6)
	all := []string{"x", "1", "(", ")", ";", ":=", "=", "=>", "!", "+", "fun", "let", "in", "if", "then", "else", "while", "do", "raise", "try", "with", ".", ":", "def"}
	for n := range 5 {
		strung(n, all, func(row []string) { asKnown(t, known, row) })
	}
	few := [][]string{{"x", "(", ")", ";", ":=", "=", "!", "raise"}, {"x", "fun", "=>", ";", "raise", "+"}, {"x", "let", "=", "in", ";", "("}, {"x", "if", "then", "else", ";"}, {"x", "while", "do", ";", ":="}, {"1", "x", "try", "with", "=>", ";"}}
	for n := 5; n <= 6; n++ {
		for _, words := range few {
			strung(n, words, func(row []string) { asKnown(t, known, row) })
		}
	}
}

// asKnown holds what is told of a row against what the grammar makes of it.
func asKnown(t *testing.T, known map[string]term.Term, row []string) {
	t.Helper()
	want, ok := known[strings.Join(row, " ")]
	x, e := parse.Toks(toks(row))
	switch {
	case !ok:
		isWrong(t, strings.Join(row, " "), x, e, api.ErrParse)
	case e != api.OK || !term.Same(x, want) || !term.Right(x):
		t.Fatalf("%q: %s, %d, not %s", row, show.Show(x), e, show.Show(want))
	}
}

// P5.1, P5.2, P5.3: all that the grammar makes, and all that differs from it in one token.
func TestAllSentences(t *testing.T) {
	known := sentences(7)
	others := []string{"x", "(", ")", ";", ":=", "=", "=>", "!", "let", "in", "then", "do", "raise", "with"}
	for at, s := range slices.Sorted(maps.Keys(known)) {
		texts := strings.Fields(s)
		if len(texts) == 7 {
			is(t, texts, known[s])
			continue
		}
		for i := range texts {
			asKnown(t, known, slices.Delete(slices.Clone(texts), i, i+1))
			if len(texts) == 6 && at%8 > 0 {
				continue
			}
			for _, other := range others {
				asKnown(t, known, slices.Insert(slices.Clone(texts), i, other))
				asKnown(t, known, slices.Replace(slices.Clone(texts), i, i+1, other))
			}
		}
	}
	if len(known) != 197334 {
		t.Error(len(known))
	}
}

// P5.3: what is shown of all small terms is parsed as they are, and so is what needs fewer `(`.
func TestShown(t *testing.T) {
	heads := []term.Term{num(0), num(12), v("x"), v("y"), of(term.Fun, "x"), of(term.Let, "y"), of(term.Try, "x"), of(term.App, ""), of(term.If, ""), of(term.While, ""), of(term.Raise, ""), of(term.Get, ""), of(term.Set, ""), of(term.Seq, "")}
	for _, op := range operators {
		heads = append(heads, of(term.Op, op))
	}
	few := []term.Term{num(1), of(term.Fun, "x"), of(term.App, ""), of(term.Get, ""), of(term.Set, ""), of(term.Op, "="), of(term.Seq, ""), of(term.Raise, "")}
	for size := 1; size <= 4; size++ {
		for _, x := range allOf(size, heads) {
			isReadBack(t, x)
		}
	}
	for size := 5; size <= 6; size++ {
		for _, x := range allOf(size, few) {
			isReadBack(t, x)
		}
	}
	isReadBack(t, many())
}

// isReadBack asks whether x, which is right, is parsed as it in each way in which it is told.
func isReadBack(t *testing.T, x term.Term) {
	t.Helper()
	is(t, lean(x, "E"), x)
	is(t, shown(x), x)
	back, e := parse.Toks(show.Toks(x))
	if e != api.OK || !term.Same(back, x) {
		t.Fatalf("%.200s: %.200s, %d", show.Show(x), show.Show(back), e)
	}
	s := show.Show(x)
	back, e = parse.Parse(s)
	if len(s) > api.MaxText {
		isWrong(t, s, back, e, api.ErrLimit)
	} else if e != api.OK || !term.Same(back, x) {
		t.Fatalf("%.200q: %.200s, %d", s, show.Show(back), e)
	}
}

// P5.1, P5.3: each Kind as each Kid of each Kind, and that as each Kid of each Kind.
func TestKids(t *testing.T) {
	for _, over := range allKinds {
		for i := range count(over) {
			for _, kind := range allKinds {
				for j := range count(kind) {
					for _, low := range allKinds {
						x := flat(over)
						x.Kids[i] = flat(kind)
						x.Kids[i].Kids[j] = flat(low)
						isReadBack(t, x)
					}
				}
			}
		}
	}
}

// P5.1: names and numbers, wherever one stands.
func TestNamesNumbers(t *testing.T) {
	for _, s := range []string{"x", "Z", "a1B", "funx", "In", "E", "S", "n", "defs", strings.Repeat("q", 16)} {
		for _, kind := range []int{term.Var, term.Fun, term.Let, term.Try} {
			x := flat(kind)
			x.Name = s
			isReadBack(t, x)
		}
	}
	for _, n := range []int64{0, 1, 9, 10, 1e9, 1<<31 - 2, 1<<31 - 1} {
		isReadBack(t, of(term.App, "", num(n), num(n)))
	}
	names := func(i int) string { return "n" + strings.Repeat("a", i%7) + strings.Repeat("b", i%5) }
	x := v("x")
	for i := range 60 {
		x = []term.Term{of(term.Fun, names(i), x), of(term.Let, names(i), x, v(names(i))), of(term.Try, names(i), v("y"), x), of(term.Op, operators[i%5], of(term.Get, "", x), v(names(i))), of(term.Let, names(i), v("z"), x), of(term.Try, names(i), x, v("w"))}[i%6]
		isReadBack(t, x)
	}
}

// P5.2: tokens that are not right, wherever they stand, and ahead of whatever else is wrong.
func TestNotRight(t *testing.T) {
	for i, w := range []lex.Tok{
		{}, {Kind: lex.Name}, {Kind: lex.Name, Text: "fun"}, {Kind: lex.Name, Text: "x", N: 1}, {Kind: lex.Name, Text: "("}, {Kind: lex.Name, Text: strings.Repeat("q", 17)}, {Kind: lex.Key, Text: "x"}, {Kind: lex.Num, Text: "1"}, {Kind: lex.Num, Text: "01", N: 1}, {Kind: lex.Num, Text: "-1", N: -1}, {Kind: lex.Num, Text: "2147483648", N: 1 << 31}, {Kind: lex.Mark, Text: "=="}, {Kind: lex.Mark, Text: "(", N: 1}, {Kind: lex.Mark, Text: ">"}, {Kind: 5, Text: "x"}, {Kind: -1, Text: "x"}, {Kind: math.MinInt, Text: "1", N: 1},
	} {
		deep := slices.Repeat([]lex.Tok{tok("(")}, 300)
		for _, l := range [][]lex.Tok{{w}, {tok("x"), w}, {w, tok("x")}, {tok("("), w, tok(")")}, {tok("fun"), w, tok("=>"), tok("x")}, {tok("x"), tok(";"), tok("y"), w}, append(slices.Clone(deep), w), append([]lex.Tok{w}, deep...), append([]lex.Tok{tok("x"), w}, slices.Repeat([]lex.Tok{tok("x")}, 20000)...)} {
			x, e := parse.Toks(l)
			if e != api.ErrParse || !term.Same(x, term.Term{}) {
				t.Error(i, len(l), e)
			}
		}
	}
}

// P5.2: a text's own error is told, whatever there is beside it.
func TestLexErrors(t *testing.T) {
	for s, want := range map[string]api.Errno{
		strings.Repeat(" ", 65535) + "x": api.OK, strings.Repeat(" ", 65536) + "x": api.ErrLimit, strings.Repeat("?", 65537): api.ErrLimit, strings.Repeat("(", 65537): api.ErrLimit, "x" + strings.Repeat("\n", 65536): api.ErrLimit,
		strings.Repeat("(", 300) + "?": api.ErrParse, "? " + strings.Repeat("!", 300) + "x": api.ErrParse, strings.Repeat("x ", 20000) + "?": api.ErrParse, strings.Repeat("?", 65536): api.ErrParse, strings.Repeat("(", 65536): api.ErrLimit, strings.Repeat("x ", 32768): api.ErrLimit, strings.Repeat(")", 65536): api.ErrParse,
	} {
		x, e := parse.Parse(s)
		if e == api.OK && want == api.OK {
			continue
		}
		isWrong(t, s, x, e, want)
	}
}

// P3, P4: nothing handed in is written into, what is told is new memory, and the same is told again.
func TestNothingIsShared(t *testing.T) {
	want := many()
	given := append(show.Toks(want), tok("spare"))
	l := given[: len(given)-1 : len(given)]
	for range 3 {
		x, e := parse.Toks(l)
		y, _ := parse.Toks(l)
		if e != api.OK || !term.Same(x, want) || !slices.Equal(given, append(show.Toks(want), tok("spare"))) {
			t.Fatal("is written into")
		}
		spoil(&x)
		if !term.Same(y, want) {
			t.Fatal("is shared")
		}
	}
	x, _ := parse.Parse("x y z")
	_ = append(x.Kids[0].Kids[:1:1], v("w"))
	if show.Show(x) != "( x y ) z" {
		t.Error(show.Show(x))
	}
}

// spoil writes into all that is in x, and behind it where there is room.
func spoil(x *term.Term) {
	for i := range x.Kids {
		spoil(&x.Kids[i])
	}
	_ = append(x.Kids, v("q"))
	*x = term.Term{Kind: -1, Name: "?", N: -1, Kids: x.Kids}
}
