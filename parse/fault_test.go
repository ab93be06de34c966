package parse

import (
	"errors"
	"slices"
	"strings"
	"testing"

	"chancel/api"
	"chancel/lex"
)

// readText reads a text whose tokens are right.
func readText(t *testing.T, s string) error {
	t.Helper()
	l, e := lex.Lex(s)
	if e != api.OK {
		t.Fatal(s, e)
	}
	_, err := read(l)
	return err
}

// P5.2: what is wrong is found in what wraps it, and tells where the reading stopped.
func TestFaults(t *testing.T) {
	great := strings.Repeat("x ", 20000)
	for _, c := range []struct {
		s, behind string
		want      api.Errno
	}{
		{"", "0", api.ErrParse}, {"let x = in 2", "3", api.ErrParse}, {"fun 1 => x", "1", api.ErrParse}, {"(x", "2", api.ErrParse}, {"x )", "1", api.ErrParse}, {"a + b + c", "3", api.ErrParse},
		{great, "5001", api.ErrLimit}, {great + ")", "20000", api.ErrParse}, {great + "+", "20001", api.ErrParse},
	} {
		err := readText(t, c.s)
		var f fault
		if !errors.As(err, &f) || api.Errno(f) != c.want || !errors.Is(err, fault(c.want)) || errors.Is(err, fault(api.OK)) || errno(err) != c.want {
			t.Errorf("%.40q: %v", c.s, err)
		}
		if want := "behind token " + c.behind + ": error " + map[api.Errno]string{api.ErrLimit: "1", api.ErrParse: "2"}[c.want]; err.Error() != want {
			t.Errorf("%.40q: %v, not %s", c.s, err, want)
		}
	}
	if err := readText(t, "x"); err != nil {
		t.Error(err)
	}
}

// P1: a panic of the language's own inside a reading is caught there.
func TestPanicsAreCaught(t *testing.T) {
	r := &reader{}
	r.then(func(r *reader) { r.names = r.names[:r.place-1] })
	err := r.run()
	if err == nil || errno(err) != api.ErrParse {
		t.Error(err)
	}
}

// What is held of tokens that are too many is no more than a right term.
func TestHeld(t *testing.T) {
	r := &reader{toks: slices.Repeat([]lex.Tok{{Kind: lex.Name, Text: "x"}, {Kind: lex.Mark, Text: ";"}}, 50000)}
	r.then(sequence, end)
	if err := r.run(); !errors.Is(err, fault(api.ErrLimit)) {
		t.Error(err)
	}
	if err := r.run(); !errors.Is(err, fault(api.ErrParse)) || len(r.terms) > api.MaxNodes || r.place != len(r.toks) {
		t.Error(err, len(r.terms), r.place)
	}
}
