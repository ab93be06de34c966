package lex_test

import (
	"math/big"
	"regexp"
	"slices"
	"strings"

	"chancel/api"
	"chancel/lex"
)

// The model: the chapter's sentences word for word, by patterns, to hold the package against.

var (
	keys  = []string{"fun", "let", "in", "if", "then", "else", "while", "do", "raise", "try", "with", "input", "cell", "def"}
	marks = []string{"(", ")", ";", ":", "=", "=>", ":=", "!", "+", "-", "*", "<", "."}

	modelSkip = regexp.MustCompile(`^(?: |\n|#[^\n]*)*`)
	modelWord = regexp.MustCompile(`^[a-zA-Z][a-zA-Z0-9]*`)
	modelRun  = regexp.MustCompile(`^[0-9]+`)
	modelName = regexp.MustCompile(`^[a-zA-Z][a-zA-Z0-9]{0,15}$`)
	modelNum  = regexp.MustCompile(`^(?:0|[1-9][0-9]*)$`)
)

// modelToken asks whether t is a token.
func modelToken(t lex.Tok) bool {
	switch t.Kind {
	case lex.Name:
		return t.N == 0 && modelName.MatchString(t.Text) && !slices.Contains(keys, t.Text)
	case lex.Key:
		return t.N == 0 && slices.Contains(keys, t.Text)
	case lex.Mark:
		return t.N == 0 && slices.Contains(marks, t.Text)
	case lex.Num:
		n, ok := new(big.Int).SetString(t.Text, 10)
		return ok && modelNum.MatchString(t.Text) && n.Cmp(big.NewInt(1<<31-1)) <= 0 && n.Cmp(big.NewInt(t.N)) == 0
	}
	return false
}

// modelMark tells the longest mark that s begins with; nothing, if there is none.
func modelMark(s string) string {
	longest := ""
	for _, m := range marks {
		if strings.HasPrefix(s, m) && len(m) > len(longest) {
			longest = m
		}
	}
	return longest
}

// modelRead tells the token that s begins with; false, if there is none.
func modelRead(s string) (lex.Tok, bool) {
	t := lex.Tok{Kind: lex.Mark, Text: modelMark(s)}
	if word := modelWord.FindString(s); word != "" {
		t = lex.Tok{Kind: lex.Name, Text: word}
		if slices.Contains(keys, word) {
			t.Kind = lex.Key
		}
	} else if digits := modelRun.FindString(s); digits != "" {
		n, _ := new(big.Int).SetString(digits, 10)
		t = lex.Tok{Kind: lex.Num, Text: digits, N: n.Int64()}
	}
	return t, modelToken(t)
}

func modelLex(s string) ([]lex.Tok, api.Errno) {
	if len(s) > 65536 {
		return nil, api.ErrLimit
	}
	told := []lex.Tok{}
	for {
		s = s[len(modelSkip.FindString(s)):]
		if s == "" {
			return told, api.OK
		}
		t, ok := modelRead(s)
		if !ok {
			return nil, api.ErrParse
		}
		told = append(told, t)
		s = s[len(t.Text):]
	}
}

func name(s string) lex.Tok { return lex.Tok{Kind: lex.Name, Text: s} }

func key(s string) lex.Tok { return lex.Tok{Kind: lex.Key, Text: s} }

func mark(s string) lex.Tok { return lex.Tok{Kind: lex.Mark, Text: s} }

func num(s string, n int64) lex.Tok { return lex.Tok{Kind: lex.Num, Text: s, N: n} }

// rights is tokens of all kinds: all keywords, all marks, and names and numbers to the edges.
func rights() []lex.Tok {
	all := []lex.Tok{
		name("x"), name("Z"), name("a1B"), name("e9"), name("funx"), name("Fun"), name("de"), name("IN"), name("inn"), name(strings.Repeat("q", 16)), name("a" + strings.Repeat("0", 15)),
		num("0", 0), num("1", 1), num("7", 7), num("10", 10), num("900", 900), num("1073741824", 1<<30), num("2147483646", 1<<31-2), num("2147483647", 1<<31-1),
	}
	for _, s := range keys {
		all = append(all, key(s))
	}
	for _, s := range marks {
		all = append(all, mark(s))
	}
	return all
}

// strung hands in each text of n of the parts, one behind the other.
func strung(n int, parts []string, see func(s string)) {
	if n == 0 {
		see("")
		return
	}
	strung(n-1, parts, func(s string) {
		for _, p := range parts {
			see(s + p)
		}
	})
}
