package elab

import (
	"errors"
	"testing"

	"chancel/api"
	"chancel/prog"
	"chancel/scope"
	"chancel/term"
)

// P9.2: what does not fit is told as an error of its own, and nothing with it.
func TestMisfit(t *testing.T) {
	for _, text := range []string{"1 2", "fun x => x", "def f = fun x => x . def g = fun x => x x . 1"} {
		p, _ := prog.Parse(text)
		q, e := scope.Resolve(p)
		if e != api.OK {
			t.Fatal(text, e)
		}
		told, err := typed(q)
		var m misfit
		if !errors.As(err, &m) || err.Error() != "its shapes do not fit" || len(told.Defs) > 0 || !Same(told.Body, Tree{}) {
			t.Error(text, err, told)
		}
	}
	if told, err := typed(prog.Prog{Body: term.Term{Kind: term.Num}}); err != nil || told.Body.Kind != term.Num {
		t.Error(err, told)
	}
}

// P1: a panic of the language's own inside is caught there, and nothing is told with it.
func TestPanicsAreCaught(t *testing.T) {
	fun := term.Term{Kind: term.Fun, Name: "1", Kids: []term.Term{{Kind: term.Num}}}
	for i, p := range []prog.Prog{
		{Body: term.Term{Kind: 77}},
		{Body: term.Term{Kind: term.App}},
		{Defs: []prog.Def{{Name: "f", T: fun}}, Body: term.Term{Kind: -1}},
	} {
		told, err := typed(p)
		if err == nil || err.Error() != "the solver failed" || len(told.Defs) > 0 || !Same(told.Body, Tree{}) {
			t.Error(i, err, told)
		}
	}
}
