package parse

import (
	"chancel/api"
	"chancel/lex"
	"chancel/term"
)

// sequence reads an E of the grammar.
func sequence(r *reader) {
	r.then(single, more)
}

// more reads what of an E stands behind its S.
func more(r *reader) {
	if r.ahead().Text == ";" {
		r.then(word(";"), sequence, made(term.Seq, 2))
	}
}

// single reads an S.
func single(r *reader) {
	switch r.ahead().Text {
	case "fun":
		r.then(word("fun"), name, word("=>"), sequence, made(term.Fun, 1))
	case "let":
		r.then(word("let"), name, word("="), sequence, word("in"), sequence, made(term.Let, 2))
	case "if":
		r.then(word("if"), sequence, word("then"), sequence, word("else"), sequence, made(term.If, 3))
	case "while":
		r.then(word("while"), sequence, word("do"), sequence, made(term.While, 2))
	case "raise":
		r.then(word("raise"), single, made(term.Raise, 1))
	case "try":
		r.then(word("try"), sequence, word("with"), name, word("=>"), sequence, made(term.Try, 2))
	default:
		r.then(applied, operation)
	}
}

// operation reads what of an S stands behind the A that it begins with.
func operation(r *reader) {
	switch r.ahead().Text {
	case ":=":
		r.then(word(":="), single, made(term.Set, 2))
	case "+", "-", "*", "<", "=":
		r.then(operator, applied, made(term.Op, 2))
	}
}

// applied reads an A.
func applied(r *reader) {
	r.then(simple, arguments)
}

// arguments reads what of an A stands behind its first P, as far as it goes.
func arguments(r *reader) {
	if t := r.ahead(); t.Kind == lex.Num || t.Kind == lex.Name || t.Text == "(" || t.Text == "!" {
		r.then(simple, made(term.App, 2), arguments)
	}
}

// simple reads a P.
func simple(r *reader) {
	switch t := r.ahead(); {
	case t.Kind == lex.Num:
		r.keep(term.Term{Kind: term.Num, N: r.take(lex.Num).N}, 0)
	case t.Kind == lex.Name:
		r.keep(term.Term{Kind: term.Var, Name: r.take(lex.Name).Text}, 0)
	case t.Text == "(":
		r.then(word("("), sequence, word(")"))
	case t.Text == "!":
		r.then(word("!"), simple, made(term.Get, 1))
	default:
		panic(fault(api.ErrParse))
	}
}

// word is the step that reads the keyword or mark of that text; no right name or number has it.
func word(text string) step {
	return func(r *reader) {
		if r.ahead().Text != text {
			panic(fault(api.ErrParse))
		}
		r.place++
	}
}

// name reads the Name of a binder.
func name(r *reader) {
	r.names = append(r.names, r.take(lex.Name).Text)
}

// operator reads the Name of an Op.
func operator(r *reader) {
	r.names = append(r.names, r.take(lex.Mark).Text)
}

// made is the step that makes a term of that Kind of so many Kids, the last that were read, and of the last Name, if it has one.
func made(kind, kids int) step {
	return func(r *reader) {
		t := term.Term{Kind: kind}
		if term.Binder(t) || kind == term.Op {
			last := len(r.names) - 1
			t.Name = r.names[last]
			r.names = r.names[:last]
		}
		r.keep(t, kids)
	}
}

// end asks that nothing stands behind what was read.
func end(r *reader) {
	if r.place < len(r.toks) {
		panic(fault(api.ErrParse))
	}
}
