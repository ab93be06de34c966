package order_test

import (
	"go/ast"
	"go/token"
	"go/types"
	"slices"
	"strings"
)

// read is where a variable's value is asked, and what may have been written there.
type read struct {
	at   ast.Expr
	keys []any
}

// breath is what one statement evaluates: its calls come in order, its reads do not.
type breath struct {
	*look
	calls  []*ast.CallExpr
	reads  []read
	logics []*ast.BinaryExpr // && and ||, which do come in order
}

// faults tells each place where a read may come ahead of a call or behind it, and is another one then.
func (l *look) faults() []string {
	l.settle()
	var told []string
	for _, u := range l.units {
		ast.Inspect(u.body, func(n ast.Node) bool {
			if _, ok := n.(*ast.FuncLit); ok {
				return false // a unit of its own
			}
			for _, b := range l.breaths(n) {
				told = append(told, b.faults()...)
			}
			return true
		})
	}
	slices.Sort(told)
	return slices.Compact(told)
}

// breaths tells what n, if it is a statement, evaluates at once.
func (l *look) breaths(n ast.Node) []*breath {
	switch x := n.(type) {
	case *ast.AssignStmt:
		b := l.breath(x.Rhs...)
		for _, e := range x.Lhs {
			if x.Tok == token.ASSIGN {
				b.place(e)
			} else if x.Tok != token.DEFINE {
				b.see(e)
			}
		}
		return []*breath{b}
	case *ast.ReturnStmt:
		return []*breath{l.breath(x.Results...)}
	case *ast.ExprStmt:
		return []*breath{l.breath(x.X)}
	case *ast.SendStmt:
		return []*breath{l.breath(x.Chan, x.Value)}
	case *ast.IncDecStmt:
		return []*breath{l.breath(x.X)}
	case *ast.GoStmt:
		return []*breath{l.breath(x.Call)}
	case *ast.DeferStmt:
		return []*breath{l.breath(x.Call)}
	case *ast.IfStmt:
		return []*breath{l.breath(x.Cond)}
	case *ast.ForStmt:
		return []*breath{l.breath(x.Cond)}
	case *ast.RangeStmt:
		return []*breath{l.breath(x.X)}
	case *ast.SwitchStmt:
		return []*breath{l.breath(x.Tag)}
	case *ast.ValueSpec:
		return []*breath{l.breath(x.Values...)}
	case *ast.CaseClause:
		var all []*breath
		for _, e := range x.List {
			all = append(all, l.breath(e))
		}
		return all
	}
	return nil
}

func (l *look) breath(all ...ast.Expr) *breath {
	b := &breath{look: l}
	for _, e := range all {
		b.see(e)
	}
	return b
}

// see gathers the calls and reads of e, whose value is asked.
func (b *breath) see(e ast.Expr) {
	if e == nil || b.private(e) || b.info.Types[e].IsType() {
		return
	}
	switch x := e.(type) {
	case *ast.Ident:
		if o := b.variable(x); o != nil {
			b.note(x, append(b.within(x), o)...)
		}
	case *ast.SelectorExpr:
		if o := b.variable(x.Sel); o != nil {
			b.note(x, append(b.within(x), o)...)
		}
		b.on(x)
	case *ast.IndexExpr:
		if b.info.Types[x.Index].IsType() {
			return // a generic function
		}
		b.note(x, append(b.within(x), elements(b.typeOf(x.X)), anyElements)...)
		b.place(x)
	case *ast.StarExpr:
		b.note(x, append(b.within(x), anywhere)...)
		b.see(x.X)
	case *ast.UnaryExpr:
		if x.Op == token.AND {
			b.place(x.X)
			return
		}
		b.see(x.X)
	case *ast.BinaryExpr:
		if x.Op == token.LAND || x.Op == token.LOR {
			b.logics = append(b.logics, x)
		}
		b.see(x.X)
		b.see(x.Y)
	case *ast.CallExpr:
		b.call(x)
	case *ast.CompositeLit:
		for _, v := range x.Elts {
			b.see(v)
		}
	case *ast.KeyValueExpr:
		if name, ok := x.Key.(*ast.Ident); !ok || !b.field(name) {
			b.see(x.Key)
		}
		b.see(x.Value)
	case *ast.SliceExpr:
		for _, y := range []ast.Expr{x.X, x.Low, x.High, x.Max} {
			b.see(y)
		}
	case *ast.ParenExpr:
		b.see(x.X)
	case *ast.TypeAssertExpr:
		b.see(x.X)
	}
}

// call gathers the call x, and what is in its operands.
func (b *breath) call(x *ast.CallExpr) {
	if all := map[any]bool{}; !b.info.Types[x.Fun].IsType() {
		if b.effects(all, x); len(all) > 0 {
			b.calls = append(b.calls, x)
		}
	}
	switch f := ast.Unparen(x.Fun).(type) {
	case *ast.SelectorExpr:
		if b.addressed(f) {
			b.place(f.X) // its address is handed in, not its value
		} else {
			b.see(f)
		}
	default:
		b.see(f)
	}
	for _, a := range x.Args {
		b.see(a)
	}
}

// place gathers what is asked to know where e is, but not its value.
func (b *breath) place(e ast.Expr) {
	switch x := ast.Unparen(e).(type) {
	case *ast.Ident:
	case *ast.SelectorExpr:
		if b.info.Selections[x] == nil {
			return
		}
		if pointer(b.typeOf(x.X)) {
			b.see(x.X)
		} else {
			b.place(x.X)
		}
	case *ast.IndexExpr:
		if b.array(x.X) {
			b.place(x.X)
		} else {
			b.see(x.X)
		}
		b.see(x.Index)
	case *ast.StarExpr:
		b.see(x.X)
	default:
		b.see(x)
	}
}

// on gathers what is asked ahead of the field or method of x.
func (b *breath) on(x *ast.SelectorExpr) {
	s := b.info.Selections[x]
	if s == nil { // a package's
		return
	}
	if pointer(b.typeOf(x.X)) || s.Kind() == types.MethodVal {
		b.see(x.X)
		return
	}
	// A part of a whole: the whole may be written, but its other parts do not matter.
	switch y := ast.Unparen(x.X).(type) {
	case *ast.Ident:
		if o := b.variable(y); o != nil {
			b.note(y, o)
		}
	case *ast.IndexExpr:
		b.note(y, elements(b.typeOf(y.X)), anyElements)
		b.place(y)
	case *ast.SelectorExpr:
		if o := b.variable(y.Sel); o != nil {
			b.note(y, o)
		}
		b.on(y)
	default:
		b.see(y)
	}
}

func (b *breath) field(name *ast.Ident) bool {
	v, ok := b.info.Uses[name].(*types.Var)
	return ok && v.IsField()
}

// note notes that the value at e is asked, which has these in it, or is them.
func (b *breath) note(e ast.Expr, keys ...any) {
	if slices.ContainsFunc(keys, func(key any) bool { return b.taken[key] }) {
		keys = append(keys, anywhere)
	}
	b.reads = append(b.reads, read{e, keys})
}

func (b *breath) faults() []string {
	var told []string
	for _, c := range b.calls {
		all := map[any]bool{}
		b.effects(all, c)
		for _, r := range b.reads {
			if inside(c, r.at) || inside(r.at, c) || b.inOrder(c, r.at) {
				continue
			}
			if slices.ContainsFunc(r.keys, func(key any) bool { return all[key] }) {
				told = append(told, b.fset.Position(r.at.Pos()).String()+": "+text(r.at)+" is read beside a call that may write it: "+text(c.Fun))
			}
		}
	}
	return told
}

// inOrder asks whether the language orders c and r: one stands on the left of an && or ||, the other on the right.
func (b *breath) inOrder(c, r ast.Expr) bool {
	return slices.ContainsFunc(b.logics, func(x *ast.BinaryExpr) bool {
		return inside(x.X, c) && inside(x.Y, r) || inside(x.X, r) && inside(x.Y, c)
	})
}

// inside asks whether n stands in of.
func inside(of, n ast.Expr) bool {
	return of.Pos() <= n.Pos() && n.End() <= of.End()
}

func text(e ast.Expr) string {
	return strings.Join(strings.Fields(types.ExprString(e)), " ")
}
