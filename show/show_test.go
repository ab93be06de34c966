package show_test

import (
	"math"
	"slices"
	"strings"
	"testing"

	"chancel/api"
	"chancel/lex"
	"chancel/show"
	"chancel/term"
)

// holds holds all that is told of a right term against the model, and against what lex reads of it.
func holds(t *testing.T, x term.Term) {
	t.Helper()
	l, s := show.Toks(x), show.Show(x)
	if !term.Right(x) || !slices.Equal(l, modelToks(x)) || !lex.Right(l) || s != strings.Join(modelTexts(x), " ") || s != lex.Print(l) {
		t.Fatalf("%v: %.200q, %.200v", x, s, l)
	}
	back, e := lex.Lex(s)
	if len(s) > api.MaxText {
		if e != api.ErrLimit {
			t.Fatalf("%.200q: %d", s, e)
		}
		return
	}
	if e != api.OK || !slices.Equal(back, l) {
		t.Fatalf("%v: %.200q is read as %.200v, %d", x, s, back, e)
	}
}

// isNothing asks whether x, which is not right, is told as the chapter says.
func isNothing(t *testing.T, x term.Term) {
	t.Helper()
	if l, s := show.Toks(x), show.Show(x); l != nil || s != "?" {
		t.Fatalf("%.200q, %d tokens", s, len(l))
	}
}

// P4.1: each Kind to the letter, its Kids alone and not.
func TestShow(t *testing.T) {
	x, y, add, get := v("x"), v("y"), of(term.Op, "+", v("x"), num(1)), of(term.Get, "", v("c"))
	for _, c := range []struct {
		want string
		x    term.Term
	}{
		{"0", num(0)}, {"7", num(7)}, {"10", num(10)}, {"2147483647", num(1<<31 - 1)},
		{"x", x}, {"Z9", v("Z9")}, {"funx", v("funx")}, {"In", v("In")}, {strings.Repeat("q", 16), v(strings.Repeat("q", 16))},
		{"fun x => x", of(term.Fun, "x", x)}, {"fun y => 1", of(term.Fun, "y", num(1))}, {"fun x => ( x + 1 )", of(term.Fun, "x", add)}, {"fun x => ( fun y => x )", of(term.Fun, "x", of(term.Fun, "y", x))},
		{"x y", of(term.App, "", x, y)}, {"( x y ) x", of(term.App, "", of(term.App, "", x, y), x)}, {"x ( y x )", of(term.App, "", x, of(term.App, "", y, x))}, {"1 2", of(term.App, "", num(1), num(2))}, {"( fun x => x ) ( ! c )", of(term.App, "", of(term.Fun, "x", x), get)},
		{"let x = 1 in y", of(term.Let, "x", num(1), y)}, {"let y = ( ! c ) in ( x + 1 )", of(term.Let, "y", get, add)}, {"let x = ( let x = x in 1 ) in ( let y = 2 in y )", of(term.Let, "x", of(term.Let, "x", x, num(1)), of(term.Let, "y", num(2), y))},
		{"if x then y else 1", of(term.If, "", x, y, num(1))}, {"if ( x + 1 ) then ( ! c ) else ( x y )", of(term.If, "", add, get, of(term.App, "", x, y))}, {"if 1 then 2 else ( if 3 then 4 else 5 )", of(term.If, "", num(1), num(2), of(term.If, "", num(3), num(4), num(5)))},
		{"while x do y", of(term.While, "", x, y)}, {"while ( ! c ) do ( x + 1 )", of(term.While, "", get, add)},
		{"raise 2", of(term.Raise, "", num(2))}, {"raise ( raise x )", of(term.Raise, "", of(term.Raise, "", x))},
		{"try x with y => 1", of(term.Try, "y", x, num(1))}, {"try ( raise 2 ) with e => ( x + 1 )", of(term.Try, "e", of(term.Raise, "", num(2)), add)},
		{"! x", of(term.Get, "", x)}, {"! 1", of(term.Get, "", num(1))}, {"! ( ! c )", of(term.Get, "", get)},
		{"x := y", of(term.Set, "", x, y)}, {"( ! c ) := ( x + 1 )", of(term.Set, "", get, add)}, {"x := ( y := 1 )", of(term.Set, "", x, of(term.Set, "", y, num(1)))},
		{"x + 1", add}, {"1 - 2", of(term.Op, "-", num(1), num(2))}, {"x * y", of(term.Op, "*", x, y)}, {"x < y", of(term.Op, "<", x, y)}, {"x = y", of(term.Op, "=", x, y)}, {"( x + 1 ) = ( ! c )", of(term.Op, "=", add, get)},
		{"x ; y", of(term.Seq, "", x, y)}, {"x ; ( 1 ; 2 )", of(term.Seq, "", x, of(term.Seq, "", num(1), num(2)))}, {"( x ; 1 ) ; 2", of(term.Seq, "", of(term.Seq, "", x, num(1)), num(2))},
		{"let f = ( fun x => ( x - y ) ) in ( try ( if ( ! c ) then ( raise 7 ) else ( f e ) ) with e => ( ( c := e ) ; ( while ( x < 2 ) do ( f 3 ) ) ) )", many()},
	} {
		if got := show.Show(c.x); got != c.want {
			t.Errorf("%q, not %q", got, c.want)
		}
		holds(t, c.x)
	}
}

// P4.1: tokens to the letter: kinds, texts and numbers.
func TestToks(t *testing.T) {
	x := name("x")
	for i, c := range []struct {
		x    term.Term
		want []lex.Tok
	}{
		{num(12), []lex.Tok{digits("12")}},
		{v("x"), []lex.Tok{x}},
		{of(term.Fun, "x", num(5)), []lex.Tok{key("fun"), x, mark("=>"), digits("5")}},
		{of(term.App, "", v("x"), num(0)), []lex.Tok{x, digits("0")}},
		{of(term.Let, "x", num(1), v("x")), []lex.Tok{key("let"), x, mark("="), digits("1"), key("in"), x}},
		{of(term.If, "", v("x"), num(1), num(2)), []lex.Tok{key("if"), x, key("then"), digits("1"), key("else"), digits("2")}},
		{of(term.While, "", v("x"), num(1)), []lex.Tok{key("while"), x, key("do"), digits("1")}},
		{of(term.Raise, "", v("x")), []lex.Tok{key("raise"), x}},
		{of(term.Try, "x", num(1), v("y")), []lex.Tok{key("try"), digits("1"), key("with"), x, mark("=>"), name("y")}},
		{of(term.Get, "", of(term.Get, "", v("x"))), []lex.Tok{mark("!"), mark("("), mark("!"), x, mark(")")}},
		{of(term.Set, "", v("x"), num(1<<31-1)), []lex.Tok{x, mark(":="), digits("2147483647")}},
		{of(term.Op, "=", v("x"), v("x")), []lex.Tok{x, mark("="), x}},
		{of(term.Seq, "", v("x"), v("x")), []lex.Tok{x, mark(";"), x}},
	} {
		if l := show.Toks(c.x); !slices.Equal(l, c.want) {
			t.Error(i, l)
		}
	}
}

// P4.1, P4.2: each Kind as each Kid of each Kind.
func TestKids(t *testing.T) {
	for _, over := range allKinds {
		for i := range count(over) {
			for _, kind := range allKinds {
				x := flat(over)
				x.Kids[i] = flat(kind)
				holds(t, x)
				holds(t, of(term.Raise, "", x))
			}
		}
	}
}

// P4.1, P4.2: names and numbers of all lengths, where a Kind has them.
func TestNamesNumbers(t *testing.T) {
	for n := 1; n <= api.MaxName; n++ {
		for _, s := range []string{strings.Repeat("z", n), strings.Repeat("A", n), "e" + strings.Repeat("0", n-1)} {
			for _, kind := range []int{term.Var, term.Fun, term.Let, term.Try} {
				x := flat(kind)
				x.Name = s
				holds(t, x)
			}
		}
	}
	for _, n := range []int64{0, 1, 9, 10, 99, 100, 1e9, 1 << 30, 1<<31 - 2, 1<<31 - 1} {
		for d := range int64(3) {
			if n-d >= 0 {
				holds(t, num(n-d))
				holds(t, of(term.Op, "-", num(n-d), num(n-d)))
			}
		}
	}
}

// P4.1, P4.2: all small terms are told as the chapter says; no two of them, being none the same, are told alike.
func TestAllTerms(t *testing.T) {
	few := []term.Term{num(1), v("x"), of(term.Fun, "x"), of(term.App, ""), of(term.Get, ""), of(term.Set, ""), of(term.Op, "="), of(term.Let, "x")}
	toldOf := map[string]term.Term{}
	hold := func(all []term.Term) {
		for _, x := range all {
			holds(t, x)
			s := show.Show(x)
			if y, ok := toldOf[s]; ok && !term.Same(x, y) {
				t.Fatalf("%q is told of %v and %v", s, x, y)
			}
			toldOf[s] = x
		}
	}
	for size := 1; size <= 5; size++ {
		hold(allOf(size, heads()))
	}
	for size := 6; size <= 7; size++ {
		hold(allOf(size, few))
	}
	if len(toldOf) != 75108 {
		t.Error(len(toldOf))
	}
}

// P4.2: what is the same is told alike, what is turned in one field is not.
func TestTurned(t *testing.T) {
	turns := []func(x *term.Term){
		func(x *term.Term) { x.Name += "q" },
		func(x *term.Term) { x.N++ },
		func(x *term.Term) { x.Name = "*" },
		func(x *term.Term) { slices.Reverse(x.Kids) },
		func(x *term.Term) { *x = of(term.Get, "", *x) },
		func(x *term.Term) { x.Kind = term.Seq },
		func(x *term.Term) { x.Kind = term.App },
		func(x *term.Term) { x.Kind = term.Raise },
		func(x *term.Term) { x.Kind = term.Let },
	}
	first := many()
	want, right := show.Show(first), 0
	for i := range term.Size(first) {
		for _, turn := range turns {
			x, at := copied(first), 0
			each(&x, func(y *term.Term) {
				if at == i {
					turn(y)
				}
				at++
			})
			switch {
			case !term.Right(x):
				isNothing(t, x)
			case (show.Show(x) == want) != term.Same(x, first):
				t.Fatal(x)
			default:
				holds(t, x)
				right++
			}
		}
	}
	if right < 50 {
		t.Error(right)
	}
}

// P4.1, P4.2: the edges of what is right, in whichever Kid a term is deep.
func TestLimits(t *testing.T) {
	for _, kind := range allKinds {
		for i := range count(kind) {
			for _, depth := range []int{1, 2, 3, 199, 200} {
				holds(t, deep(kind, i, depth))
			}
			isNothing(t, deep(kind, i, 201))
			isNothing(t, deep(kind, i, 202))
		}
	}
	for _, size := range []int{9998, 9999, 10000} {
		holds(t, sized(size, term.Seq, num(1<<31-1)))
		isNothing(t, sized(size+3, term.Seq, num(1)))
	}
	isNothing(t, sized(10001, term.App, v("x")))
}

// P4.2: a text may be longer than what is read as tokens; it is told whole.
func TestLong(t *testing.T) {
	for _, kind := range []int{term.App, term.Let, term.Try, term.Seq} {
		for _, n := range []int{1, 6, api.MaxName} {
			holds(t, sized(api.MaxNodes-1, kind, v(strings.Repeat("q", n))))
		}
	}
	if s := show.Show(sized(api.MaxNodes-1, term.Try, v(strings.Repeat("q", api.MaxName)))); len(s) <= 2*api.MaxText {
		t.Error(len(s))
	}
	for _, c := range []struct {
		length int
		want   api.Errno
	}{{api.MaxText - 1, api.OK}, {api.MaxText, api.OK}, {api.MaxText + 1, api.ErrLimit}, {api.MaxText + 16, api.ErrLimit}} {
		s := show.Show(long(c.length))
		if _, e := lex.Lex(s); len(s) != c.length || e != c.want {
			t.Error(len(s), e)
		}
		holds(t, long(c.length))
	}
}

// long is a term whose text is of that length: Vars that Seqs hold, whose names are made longer one by one.
func long(length int) term.Term {
	const size = 9001
	x := copied(sized(size, term.Seq, v("x")))
	left := length - len(show.Show(x))
	each(&x, func(y *term.Term) {
		if y.Kind == term.Var {
			more := min(left, api.MaxName-1)
			y.Name += strings.Repeat("q", more)
			left -= more
		}
	})
	return x
}

// P4.1: Kinds, Names, Ns and Kids put together in every way, alone and as a Kid: what is not right is told as nothing.
func TestAllWays(t *testing.T) {
	names := append([]string{"", " ", "?", "x", "x y", "x ", "x#", "x\n", "1", "(", ")", "+", "-", "*", "<", "=", ":=", "=>", "!", ";", ".", "++", "é", "\xff", strings.Repeat("k", 16), strings.Repeat("k", 17)}, keywords...)
	kinds := append([]int{math.MinInt, -1, 0, 14, 15, 1 << 32, 1<<32 + 1, math.MaxInt}, allKinds...)
	right := 0
	for _, kind := range kinds {
		for _, name := range names {
			for _, n := range []int64{math.MinInt64, -1, 0, 1, 1<<31 - 1, 1 << 31, 1<<32 + 1, math.MaxInt64} {
				for kids := range 5 {
					x := term.Term{Kind: kind, Name: name, N: n, Kids: slices.Repeat([]term.Term{num(2)}, kids)}
					for _, y := range []term.Term{x, of(term.Raise, "", x), of(term.If, "", num(1), x, v("y"))} {
						if term.Right(y) {
							right++
							holds(t, y)
						} else {
							isNothing(t, y)
						}
					}
				}
			}
		}
	}
	if right != 3*(3+2*4+5+7) {
		t.Error(right)
	}
}

// P4.1: whatever term in a right one is turned into a wrong one, all is told as nothing.
func TestNotRight(t *testing.T) {
	wrongs := []term.Term{{}, {Kind: 14}, num(-1), num(1 << 31), v(""), v("in"), of(term.Fun, "x"), of(term.Seq, "", num(1)), of(term.Get, "", num(1), num(1)), of(term.App, "x", num(1), num(1)), of(term.Op, "!", num(1), num(1)), of(term.While, "", num(1), num(1), num(1)), of(term.Num, "", num(1)), of(term.If, "", num(1), num(1))}
	for i := range term.Size(many()) {
		for _, w := range wrongs {
			x, at := copied(many()), 0
			each(&x, func(y *term.Term) {
				if at == i {
					*y = w
				}
				at++
			})
			isNothing(t, x)
		}
	}
}

// P1: terms that go round, that are as deep as memory goes, and that share their Kids over and over.
func TestAnyTerm(t *testing.T) {
	round := of(term.Get, "", num(1))
	round.Kids[0] = round
	isNothing(t, round)
	round = of(term.If, "", num(1), num(1), num(1))
	round.Kids[2] = round
	isNothing(t, round)

	all := make([]term.Term, 3_000_000)
	for i := range all[1:] {
		all[i] = of(term.Raise, "")
		all[i].Kids = all[i+1 : i+2]
	}
	isNothing(t, all[0])
	isNothing(t, of(term.Seq, "", slices.Repeat([]term.Term{num(1)}, 1<<20)...))

	x := v("x")
	for d := range 60 {
		if d <= 12 {
			holds(t, x)
		} else {
			isNothing(t, x)
		}
		x = of(term.Seq, "", x, x)
	}
}

// P5: no Kids may be nil or empty.
func TestNilOrEmpty(t *testing.T) {
	x := of(term.Op, "-", term.Term{Kind: term.Num, N: 3, Kids: []term.Term{}}, term.Term{Kind: term.Var, Name: "x", Kids: []term.Term{}})
	if show.Show(x) != "3 - x" {
		t.Error(show.Show(x))
	}
	isNothing(t, term.Term{Kind: term.Raise, Kids: []term.Term{}})
}

// P3, P4: nothing handed in is written into, what is told is new memory, and the same is told again.
func TestNothingIsShared(t *testing.T) {
	x := copied(many())
	want, text := modelToks(x), strings.Join(modelTexts(x), " ")
	for range 3 {
		l := show.Toks(x)
		other := show.Toks(x)
		for i := range l {
			l[i] = mark("?")
		}
		_ = append(other[:1], mark("?"), mark("?"))
		if !slices.Equal(show.Toks(x), want) || show.Show(x) != text || other[0] != want[0] || !term.Same(x, many()) || !spared(x) {
			t.Fatal("is shared, or written into")
		}
	}
}
