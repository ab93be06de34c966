package lex_test

import (
	"math"
	"slices"
	"strings"
	"testing"

	"chancel/api"
	"chancel/lex"
)

// P2.1: keywords, and what is near to one.
func TestKeyword(t *testing.T) {
	for _, s := range keys {
		if !lex.Keyword(s) {
			t.Errorf("%q is one", s)
		}
		for _, near := range []string{s + "s", "a" + s, s[1:], s[:len(s)-1], s + " ", " " + s, s + "\x00", strings.ToUpper(s), strings.ToUpper(s[:1]) + s[1:], s + s} {
			if lex.Keyword(near) {
				t.Errorf("%q is none", near)
			}
		}
	}
	for _, s := range append([]string{"", "x", "0", "of", "for", "end", "set", "get", "\xff", strings.Repeat("fun", 1<<20)}, marks...) {
		if lex.Keyword(s) {
			t.Errorf("%q is none", s)
		}
	}
}

// P2.1: tokens of each kind, alone and all in one list.
func TestRight(t *testing.T) {
	for _, x := range rights() {
		if !lex.Right([]lex.Tok{x}) {
			t.Error(x)
		}
	}
	if !lex.Right(rights()) || !lex.Right(nil) || !lex.Right([]lex.Tok{}) {
		t.Error("lists")
	}
}

// P2.1: whatever one thing is wrong of one token, in whichever place, the list is not right.
func TestNotRight(t *testing.T) {
	for what, x := range map[string]lex.Tok{
		"nothing": {}, "a gap": {Text: " "}, "a remark": {Text: "#x"}, "kind 0": {Text: "x"}, "kind 5": {Kind: 5, Text: "x"}, "kind below 0": {Kind: -1, Text: "?"},
		"a name of nothing": name(""), "a keyword as name": name("fun"), "a name with N": {Kind: lex.Name, Text: "x", N: 1}, "digits as name": name("1"), "17 letters": name(strings.Repeat("q", 17)), "a name with more behind": name("x "), "with more ahead": name(" x"), "two names": name("x y"), "a name and a remark": name("x#"), "a mark as name": name("+"), "no letter": name("_x"), "a word of other letters": name("é"),
		"a key of nothing": key(""), "a name as key": key("x"), "a key with N": {Kind: lex.Key, Text: "fun", N: 1}, "a key with more behind": key("fun "), "a mark as key": key("=>"), "two keys": key("in if"),
		"a number of nothing": num("", 0), "another N": num("1", 0), "N beside it": num("1", 2), "a nought ahead": num("01", 1), "two noughts": num("00", 0), "below 0": num("-1", -1), "nought below 0": num("-0", 0), "with a plus": num("+1", 1), "2^31": num("2147483648", 1<<31), "2^31 as it wraps": num("2147483648", math.MinInt32), "2^64 as it wraps": num("18446744073709551616", 0), "a number with more behind": num("1 ", 1), "with a line": num("1_0", 10), "in sixteens": num("0x1", 1), "a name as number": num("x", 0), "two numbers": num("1 1", 1), "a digit of others": num("١", 1),
		"a mark of nothing": mark(""), "no mark": mark(">"), "two marks": mark("=="), "a mark and more": mark("=>x"), "marks apart": mark("= >"), "a mark with a gap": mark("= "), "a mark with N": {Kind: lex.Mark, Text: "=", N: 1}, "a name as mark": mark("x"), "a key as mark": mark("fun"), "a number as mark": mark("0"), "turned": mark("=:"), "a remark as mark": mark("#"),
	} {
		for _, l := range [][]lex.Tok{{x}, {x, mark("=")}, {mark("="), x}, {name("x"), x, num("1", 1)}} {
			if lex.Right(l) {
				t.Error(what, len(l))
			}
		}
	}
}

// P2.1: kinds, texts and numbers put together in every way.
func TestRightAllWays(t *testing.T) {
	texts := append([]string{"", " ", "#", ">", "x", "X1", "1x", "x_", "0", "1", "01", "-1", "2147483647", "2147483648", "4294967297", strings.Repeat("k", 16), strings.Repeat("k", 17), strings.Repeat("9", 40), "fun ", "::", "\xff", "\x00"}, append(marks, keys...)...)
	for _, kind := range []int{math.MinInt, -1, 0, 1, 2, 3, 4, 5, 257, math.MaxInt} {
		for _, s := range texts {
			for _, n := range []int64{math.MinInt64, -1, 0, 1, 1<<31 - 1, 1 << 31, 1<<32 + 1, math.MaxInt64} {
				x := lex.Tok{Kind: kind, Text: s, N: n}
				if lex.Right([]lex.Tok{x}) != modelToken(x) {
					t.Error(x)
				}
			}
		}
	}
}

// P2.2: texts as tokens, to the letter.
func TestLex(t *testing.T) {
	for s, want := range map[string][]lex.Tok{
		"": nil, " ": nil, "\n": nil, " \n\n  \n": nil, "#": nil, "#\n": nil, "# let x = \t ? \x00\xff é": nil, "#a\n#b\n #c": nil,
		"x":                     {name("x")},
		"x y\nz":                {name("x"), name("y"), name("z")},
		"1#2\n3":                {num("1", 1), num("3", 3)},
		"x#y":                   {name("x")},
		"#x\ny":                 {name("y")},
		"##x\n#\ny#":            {name("y")},
		"fun x => x + 1":        {key("fun"), name("x"), mark("=>"), name("x"), mark("+"), num("1", 1)},
		"funx":                  {name("funx")},
		"fun1":                  {name("fun1")},
		"FUN":                   {name("FUN")},
		"in in":                 {key("in"), key("in")},
		"inin":                  {name("inin")},
		"input":                 {key("input")},
		"inpu":                  {name("inpu")},
		"1fun":                  {num("1", 1), key("fun")},
		"12ab":                  {num("12", 12), name("ab")},
		"ab12":                  {name("ab12")},
		"0x1":                   {num("0", 0), name("x1")},
		"1.2":                   {num("1", 1), mark("."), num("2", 2)},
		"-1":                    {mark("-"), num("1", 1)},
		"0 0":                   {num("0", 0), num("0", 0)},
		"2147483647":            {num("2147483647", 1<<31-1)},
		strings.Repeat("q", 16): {name(strings.Repeat("q", 16))},
		"=":                     {mark("=")},
		"==":                    {mark("="), mark("=")},
		"==>":                   {mark("="), mark("=>")},
		"=>=>":                  {mark("=>"), mark("=>")},
		":=":                    {mark(":=")},
		": =":                   {mark(":"), mark("=")},
		":\n=":                  {mark(":"), mark("=")},
		":#\n=":                 {mark(":"), mark("=")},
		"::=":                   {mark(":"), mark(":=")},
		":==>":                  {mark(":="), mark("=>")},
		"=:=":                   {mark("="), mark(":=")},
		"();:!+-*<.":            {mark("("), mark(")"), mark(";"), mark(":"), mark("!"), mark("+"), mark("-"), mark("*"), mark("<"), mark(".")},
		"cell c : Lo = 0 .\n!c": {key("cell"), name("c"), mark(":"), name("Lo"), mark("="), num("0", 0), mark("."), mark("!"), name("c")},
	} {
		l, e := lex.Lex(s)
		if e != api.OK || !slices.Equal(l, want) || !lex.Right(l) {
			t.Errorf("%q: %v, %d", s, l, e)
		}
	}
}

// P2.2: what is wrong is told alone, wherever it stands.
func TestLexErrors(t *testing.T) {
	for _, s := range []string{
		"?", ">", "x:=>1", "x := > 1", "< >", "\t", "\r", "x\r\n", "\v", "\f", "\x00", "\x7f", "\u00a0", "\u2028", "\ufeff", "\ufeffx", "\"x\"", "'x'", "a_b", "_", "a,b", "[", "]", "{", "}", "/", "@", "`", "~", "^", "|", "&", "%", "$", "\\",
		"é", "aé", "ａ", "١", "\xff", "a\xff", "1\x80", "00", "01", "000", "007", "x 01", "01x", "0123456789", "2147483648", "2147483650", "4294967296", "9223372036854775808", "18446744073709551616", "18446744073709551617", "99999999999999999999", strings.Repeat("9", 65536), strings.Repeat("0", 65536),
		strings.Repeat("q", 17), "a" + strings.Repeat("0", 16), strings.Repeat("fun", 6), strings.Repeat("q", 65536),
	} {
		for _, whole := range []string{s, s + "\n", "let x = 1 in " + s, s + " x", "#\n" + s + "#"} {
			want := api.ErrParse
			if len(whole) > api.MaxText {
				want = api.ErrLimit
			}
			if l, e := lex.Lex(whole); l != nil || e != want {
				t.Errorf("%.40q: %v, %d", whole, l, e)
			}
		}
		if l, e := lex.Lex("x#" + s[:min(len(s), 60)]); !slices.Equal(l, []lex.Tok{name("x")}) || e != api.OK {
			t.Errorf("%.40q in a remark: %v, %d", s, l, e)
		}
	}
}

// P2.2: each byte alone, and behind and ahead of others.
func TestLexBytes(t *testing.T) {
	for c := range 256 {
		s := string([]byte{byte(c)})
		for _, ahead := range []string{"", "a", "1", "0", ":", "=", "#", " ", "fu", "qqqqqqqqqqqqqqqq", "214748364"} {
			for _, behind := range []string{"", "a", "1", "=", ">", "\n", "\nb", "#"} {
				asModel(t, ahead+s+behind)
			}
		}
	}
}

// asModel holds what is told of s against the model.
func asModel(t *testing.T, s string) {
	t.Helper()
	l, e := lex.Lex(s)
	want, errno := modelLex(s)
	if e != errno || !slices.Equal(l, want) || e != api.OK && l != nil {
		t.Fatalf("%q: %v, %d, not %v, %d", s, l, e, want, errno)
	}
	if !lex.Right(l) {
		t.Fatalf("%q: %v is not right", s, l)
	}
}

// P2.2, P2.4: all short texts of bytes that matter, held against the chapter's words; what is told is right.
func TestAllTexts(t *testing.T) {
	parts := strings.Split("a Z 0 1 9 # : = > ( ; < . _ \xff", " ")
	for n := range 5 {
		strung(n, append(parts, " ", "\n"), func(s string) { asModel(t, s) })
	}
}

// P2.2, P2.4: words, numbers and marks one behind the other, with and without gaps.
func TestAllWords(t *testing.T) {
	parts := append([]string{"x", "y2", "0", "12", "2147483647", "2147483648", "qqqqqqqq", "#z", " ", "\n", ">", "\t"}, append(keys, marks...)...)
	for n := range 4 {
		strung(n, parts, func(s string) { asModel(t, s) })
	}
}

// P2.2: the limit is of bytes, and it is asked first.
func TestLexLimit(t *testing.T) {
	for _, c := range []struct {
		ahead, fill string
		more        api.Errno
		count       int
	}{
		{"", " ", api.OK, 0}, {"", "\n", api.OK, 0}, {"#", "é", api.OK, 0}, {"", "(", api.OK, api.MaxText}, {"", "1 ", api.OK, api.MaxText / 2}, {"", ":=", api.OK, api.MaxText / 2}, {"", "?", api.ErrParse, 0}, {"", "q", api.ErrParse, 0},
	} {
		most := c.ahead + strings.Repeat(c.fill, api.MaxText)
		most = most[:api.MaxText]
		if l, e := lex.Lex(most); e != c.more || len(l) != c.count || !lex.Right(l) {
			t.Errorf("%.10q: %d, %d", most, len(l), e)
		}
		for _, s := range []string{most + " ", most + "\n", most + "?", strings.Repeat(most, 20)} {
			if l, e := lex.Lex(s); l != nil || e != api.ErrLimit {
				t.Errorf("%.10q, %d bytes: %d", s, len(s), e)
			}
		}
	}
}

// P2.3: texts with a space between two, whatever the tokens are.
func TestPrint(t *testing.T) {
	for want, l := range map[string][]lex.Tok{
		"":                 nil,
		"x":                {name("x")},
		"let x = 3":        {key("let"), name("x"), mark("="), num("3", 3)},
		"fun x => ( x ) .": {key("fun"), name("x"), mark("=>"), mark("("), name("x"), mark(")"), mark(".")},
		"5":                {{Kind: lex.Num, Text: "5", N: 6}},
		" ":                {{}, {}},
		"a b  \n\xff":      {{Kind: -7, Text: "a b"}, {}, {Text: "\n\xff", N: -1}},
	} {
		if got := lex.Print(l); got != want {
			t.Errorf("%q, not %q", got, want)
		}
	}
	if lex.Print([]lex.Tok{}) != "" || lex.Print([]lex.Tok{{}}) != "" {
		t.Error("nothing")
	}
}

// P2.4: right tokens, printed, are read as they are.
func TestPrintLex(t *testing.T) {
	all := rights()
	isReadBack(t, all)
	for _, a := range all {
		isReadBack(t, []lex.Tok{a})
		for _, b := range all {
			isReadBack(t, []lex.Tok{a, b})
			isReadBack(t, []lex.Tok{b, a, a})
		}
	}
}

func isReadBack(t *testing.T, l []lex.Tok) {
	t.Helper()
	if back, e := lex.Lex(lex.Print(l)); e != api.OK || !slices.Equal(back, l) {
		t.Fatal(l, back, e)
	}
}

// P2.4: as long as that is not too long.
func TestPrintLexLong(t *testing.T) {
	isReadBack(t, slices.Repeat([]lex.Tok{mark("!")}, 32768))
	isReadBack(t, append(slices.Repeat([]lex.Tok{mark("!")}, 32767), mark("=>")))
	for _, l := range [][]lex.Tok{slices.Repeat([]lex.Tok{mark("!")}, 32769), append(slices.Repeat([]lex.Tok{mark("!")}, 32766), name("xyz"), name("y"))} {
		if back, e := lex.Lex(lex.Print(l)); back != nil || e != api.ErrLimit || !lex.Right(l) {
			t.Error(len(l), e)
		}
	}
}

// P3, P4: nothing handed in is written into, what is told is new memory, and the same is told again.
func TestNothingIsShared(t *testing.T) {
	const text = "let x = 3 in x + 4"
	want, _ := modelLex(text)
	for range 2 {
		l, e := lex.Lex(text)
		if e != api.OK || !slices.Equal(l, want) {
			t.Fatal(l, e)
		}
		l[0], l[3] = mark("?"), num("9", 1)
	}
	spare := append(slices.Clone(want), name("spare"))
	roomy := spare[:len(want)]
	for range 2 {
		if lex.Print(roomy) != text || !lex.Right(roomy) || !slices.Equal(roomy, want) || spare[len(want)] != name("spare") {
			t.Error("is written into")
		}
	}
}

// P1: tokens of great texts, and long lists, are looked at to the end.
func TestAnyToks(t *testing.T) {
	for _, fill := range []string{"q", "0", "9", "=", " ", "#", "\n", "fun", "\xff"} {
		long := strings.Repeat(fill, 1<<20)
		for kind := -1; kind <= 5; kind++ {
			l := []lex.Tok{{Kind: kind, Text: long}, {Kind: kind, Text: long}}
			if lex.Right(l) || lex.Right(l[1:]) || lex.Print(l) != long+" "+long {
				t.Errorf("%q %d", fill, kind)
			}
		}
		if l, e := lex.Lex(long); l != nil || e != api.ErrLimit {
			t.Errorf("%q %d", fill, e)
		}
	}
	many := slices.Repeat([]lex.Tok{name("x")}, 1<<20)
	if !lex.Right(many) || lex.Right(append(many, lex.Tok{})) || len(lex.Print(many)) != 1<<21-1 {
		t.Error("many")
	}
}
