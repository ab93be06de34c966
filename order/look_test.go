package order_test

import (
	"go/ast"
	"go/build"
	"go/importer"
	"go/parser"
	"go/token"
	"go/types"
	"os/exec"
	"path/filepath"
	"strings"
	"sync"
)

// look is what is known of the functions of a program.
type look struct {
	root   string // the folder of the packages, if they are not handed in as texts
	fset   *token.FileSet
	info   *types.Info
	std    types.Importer
	packs  map[string]*types.Package
	units  []*unit
	by     map[any]*unit         // the unit of each declared function, and of each function literal
	values map[*unit]bool        // those that may be called by another thing than their name
	params map[types.Object]bool // parameters
	taken  map[any]bool          // what an address is asked of
	caught map[types.Object]bool // variables that a function literal has of what is around it
}

// unit is a function with a body, and what may have another value behind a call of it: variables and fields, and, as texts, elements of lists, and what pointers lead to.
type unit struct {
	node   ast.Node
	body   *ast.BlockStmt
	name   string
	sig    *types.Signature
	writes map[any]bool
}

const (
	anywhere    = "what a pointer leads to"
	anyElements = "elements of a list of any kind"
)

// library reads the packages of the library once for all looks.
var library = sync.OnceValues(func() (*token.FileSet, types.Importer) {
	if build.Default.GOROOT == "" {
		told, _ := exec.Command("go", "env", "GOROOT").Output()
		build.Default.GOROOT = strings.TrimSpace(string(told))
	}
	files := token.NewFileSet()
	return files, importer.ForCompiler(files, "source", nil)
})

func newLook(root string) *look {
	l := &look{root: root, packs: map[string]*types.Package{}, by: map[any]*unit{}, values: map[*unit]bool{}, params: map[types.Object]bool{}, taken: map[any]bool{}, caught: map[types.Object]bool{}}
	l.info = &types.Info{Types: map[ast.Expr]types.TypeAndValue{}, Uses: map[*ast.Ident]types.Object{}, Defs: map[*ast.Ident]types.Object{}, Selections: map[*ast.SelectorExpr]*types.Selection{}}
	l.fset, l.std = library()
	return l
}

// Import reads a package of the program, or of the library.
func (l *look) Import(path string) (*types.Package, error) {
	dir, ours := strings.CutPrefix(path, "chancel/")
	if !ours {
		return l.std.Import(path)
	}
	if p := l.packs[path]; p != nil {
		return p, nil
	}
	names, err := filepath.Glob(filepath.Join(l.root, dir, "*.go"))
	if err != nil {
		return nil, err
	}
	var files []*ast.File
	for _, name := range names {
		if strings.HasSuffix(name, "_test.go") {
			continue
		}
		f, err := parser.ParseFile(l.fset, name, nil, 0)
		if err != nil {
			return nil, err
		}
		files = append(files, f)
	}
	return l.check(path, files)
}

func (l *look) check(path string, files []*ast.File) (*types.Package, error) {
	c := types.Config{Importer: l}
	p, err := c.Check(path, l.fset, files, l.info)
	if err != nil {
		return nil, err
	}
	l.packs[path] = p
	for _, f := range files {
		l.gather(f)
	}
	return p, nil
}

// gather notes the functions of a file, and which of them may be called by another thing than their name.
func (l *look) gather(f *ast.File) {
	called := map[ast.Expr]bool{}
	ast.Inspect(f, func(n ast.Node) bool {
		switch x := n.(type) {
		case *ast.FuncDecl:
			o := l.info.Defs[x.Name].(*types.Func)
			u := &unit{node: x, body: x.Body, name: x.Name.Name, sig: o.Signature(), writes: map[any]bool{}}
			l.units = append(l.units, u)
			l.by[o] = u
			l.values[u] = x.Recv != nil // an interface may have it
			l.note(x.Type)
		case *ast.FuncLit:
			l.catch(x)
			u := &unit{node: x, body: x.Body, sig: l.info.Types[x].Type.(*types.Signature), writes: map[any]bool{}}
			l.units = append(l.units, u)
			l.by[x] = u
			l.values[u] = true
			l.note(x.Type)
		case *ast.UnaryExpr:
			if x.Op == token.AND {
				l.take(x.X)
			}
		case *ast.SliceExpr:
			if l.array(x.X) {
				l.take(x.X)
			}
		case *ast.SelectorExpr:
			if l.addressed(x) {
				l.take(x.X)
			}
		case *ast.CallExpr:
			called[named(x.Fun)] = true
		case *ast.Ident:
			if o, ok := l.info.Uses[x].(*types.Func); ok && !called[x] {
				if u := l.by[o.Origin()]; u != nil {
					l.values[u] = true
				}
			}
		}
		return true
	})
}

// take notes that an address leads into e: into each variable and field on the way that is not led to by a pointer.
func (l *look) take(e ast.Expr) {
	switch x := ast.Unparen(e).(type) {
	case *ast.Ident:
		l.taken[l.variable(x)] = true
	case *ast.SelectorExpr:
		l.taken[l.variable(x.Sel)] = true
		if l.info.Selections[x] != nil && !pointer(l.typeOf(x.X)) {
			l.take(x.X)
		}
	case *ast.IndexExpr:
		l.taken[elements(l.typeOf(x.X))] = true
		if l.array(x.X) {
			l.take(x.X)
		}
	}
}

// addressed asks whether x is a method that is given the address of what stands ahead of it.
func (l *look) addressed(x *ast.SelectorExpr) bool {
	s := l.info.Selections[x]
	return s != nil && s.Kind() == types.MethodVal && pointer(s.Obj().(*types.Func).Signature().Recv().Type()) && !pointer(l.typeOf(x.X))
}

// catch notes the variables that f has of what is around it.
func (l *look) catch(f *ast.FuncLit) {
	ast.Inspect(f, func(n ast.Node) bool {
		if x, ok := n.(*ast.Ident); ok {
			if o := l.variable(x); o != nil && (o.Pos() < f.Pos() || o.Pos() >= f.End()) {
				l.caught[o] = true
			}
		}
		return true
	})
}

// private asks whether e is a part of a variable that no other function can reach.
func (l *look) private(e ast.Expr) bool {
	switch x := ast.Unparen(e).(type) {
	case *ast.Ident:
		v, ok := l.variable(x).(*types.Var)
		return ok && !v.IsField() && v.Parent() != v.Pkg().Scope() && !l.taken[v] && !l.caught[v]
	case *ast.SelectorExpr:
		return l.info.Selections[x] != nil && !pointer(l.typeOf(x.X)) && l.private(x.X)
	}
	return false
}

// note notes the parameters: of those that are functions, who hands them in counts as who calls them.
func (l *look) note(t *ast.FuncType) {
	for _, f := range t.Params.List {
		for _, name := range f.Names {
			l.params[l.info.Defs[name]] = true
		}
	}
}

// named tells the name by which a call calls, if it does by a name.
func named(e ast.Expr) *ast.Ident {
	switch x := ast.Unparen(e).(type) {
	case *ast.Ident:
		return x
	case *ast.SelectorExpr:
		return x.Sel
	case *ast.IndexExpr:
		return named(x.X)
	case *ast.IndexListExpr:
		return named(x.X)
	}
	return nil
}

func pointer(t types.Type) bool {
	_, ok := t.Underlying().(*types.Pointer)
	return ok
}

// array asks whether e is an array, whose elements are parts of it, not a list that leads to them.
func (l *look) array(e ast.Expr) bool {
	_, ok := l.typeOf(e).Underlying().(*types.Array)
	return ok
}

// variable tells the variable or field of that name; nil, if it is the name of another thing.
func (l *look) variable(x *ast.Ident) types.Object {
	for _, o := range []types.Object{l.info.Uses[x], l.info.Defs[x]} {
		if v, ok := o.(*types.Var); ok {
			return v.Origin()
		}
	}
	return nil
}

func (l *look) typeOf(e ast.Expr) types.Type {
	if t := l.info.Types[e].Type; t != nil {
		return t
	}
	if x, ok := e.(*ast.Ident); ok {
		if o := l.variable(x); o != nil {
			return o.Type()
		}
	}
	return types.Typ[types.Invalid]
}

// elements tells the word for the elements of what is of type t.
func elements(t types.Type) any {
	t = t.Underlying()
	if p, ok := t.(*types.Pointer); ok {
		t = p.Elem().Underlying()
	}
	var of types.Type
	switch x := t.(type) {
	case *types.Slice:
		of = x.Elem()
	case *types.Array:
		of = x.Elem()
	case *types.Map:
		of = x.Elem()
	default:
		return anyElements
	}
	if _, generic := of.(*types.TypeParam); generic {
		return anyElements
	}
	return "elements of " + types.TypeString(of, nil)
}

// settle finds what each function may write, its calls' writes among it, till nothing is added any more.
func (l *look) settle() {
	for more := true; more; {
		more = false
		for _, u := range l.units {
			was := len(u.writes)
			l.write(u)
			more = more || len(u.writes) > was
		}
	}
}

// write notes what u writes, as far as is known yet of what it calls.
func (l *look) write(u *unit) {
	all := map[any]bool{}
	ast.Inspect(u.body, func(n ast.Node) bool {
		switch x := n.(type) {
		case *ast.FuncLit: // it is called, if not here, by who is given it
			merge(all, l.by[x].writes)
			return false
		case *ast.AssignStmt:
			for _, e := range x.Lhs {
				l.target(all, e)
			}
		case *ast.IncDecStmt:
			l.target(all, x.X)
		case *ast.RangeStmt:
			if x.Tok == token.ASSIGN {
				l.target(all, x.Key)
				l.target(all, x.Value)
			}
			if sig, ok := l.typeOf(x.X).Underlying().(*types.Signature); ok {
				l.shaped(all, sig)
			}
		case *ast.CallExpr:
			l.effects(all, x)
		}
		return true
	})
	for key := range all {
		// What is its own is another thing in each call.
		if o, ok := key.(types.Object); !ok || o.Pos() < u.node.Pos() || o.Pos() >= u.node.End() {
			u.writes[key] = true
		}
	}
}

func merge(all, more map[any]bool) {
	for key := range more {
		all[key] = true
	}
}

// target notes what is written where e stands on the left.
func (l *look) target(all map[any]bool, e ast.Expr) {
	if e == nil || l.private(e) {
		return
	}
	switch x := ast.Unparen(e).(type) {
	case *ast.Ident:
		l.wrote(all, l.variable(x))
	case *ast.SelectorExpr:
		l.wrote(all, l.variable(x.Sel))
	case *ast.IndexExpr:
		l.wrote(all, elements(l.typeOf(x.X)))
		if l.array(x.X) {
			l.target(all, x.X)
		}
	case *ast.StarExpr:
		all[anywhere] = true
	}
	for _, f := range l.within(e) {
		l.wrote(all, f)
	}
}

func (l *look) wrote(all map[any]bool, key any) {
	all[key] = true
	if l.taken[key] {
		all[anywhere] = true
	}
}

// within tells the fields of what e is, if it is a struct: its value has them all.
func (l *look) within(e ast.Expr) []any {
	var told []any
	var enter func(t types.Type)
	enter = func(t types.Type) {
		s, ok := t.Underlying().(*types.Struct)
		if !ok {
			return
		}
		for f := range s.Fields() {
			told = append(told, f.Origin())
			enter(f.Type())
		}
	}
	enter(l.typeOf(e))
	return told
}

// effects notes what may be written by the call x itself, not by the calls in its operands.
func (l *look) effects(all map[any]bool, x *ast.CallExpr) {
	if l.info.Types[x.Fun].IsType() {
		return
	}
	for _, a := range x.Args {
		l.handed(all, a)
	}
	if f, ok := ast.Unparen(x.Fun).(*ast.FuncLit); ok {
		merge(all, l.by[f].writes)
		return
	}
	name := named(x.Fun)
	if name == nil {
		l.dynamic(all, x.Fun)
		return
	}
	switch o := l.info.Uses[name].(type) {
	case *types.Builtin:
		l.builtin(all, o.Name(), x)
	case *types.Func:
		l.function(all, o, x)
	case *types.Var:
		if !l.params[o] {
			l.dynamic(all, x.Fun)
		}
	}
}

// handed notes what is written by a function that is handed in.
func (l *look) handed(all map[any]bool, a ast.Expr) {
	if f, ok := ast.Unparen(a).(*ast.FuncLit); ok {
		merge(all, l.by[f].writes)
		return
	}
	sig, ok := l.typeOf(a).Underlying().(*types.Signature)
	if !ok {
		return
	}
	if name := named(a); name != nil {
		if o, ok := l.info.Uses[name].(*types.Func); ok {
			if u := l.by[o.Origin()]; u != nil {
				merge(all, u.writes)
			}
			return
		}
		if l.params[l.info.Uses[name]] {
			return
		}
	}
	l.shaped(all, sig)
}

func (l *look) builtin(all map[any]bool, name string, x *ast.CallExpr) {
	switch name {
	case "append":
		if _, cut := ast.Unparen(x.Args[0]).(*ast.SliceExpr); !cut {
			return // what is behind a whole list is nobody's
		}
		fallthrough
	case "copy", "clear", "delete":
		all[elements(l.typeOf(x.Args[0]))] = true
	}
}

func (l *look) function(all map[any]bool, o *types.Func, x *ast.CallExpr) {
	if u := l.by[o.Origin()]; u != nil {
		merge(all, u.writes)
		return
	}
	if r := o.Signature().Recv(); r != nil && types.IsInterface(r.Type()) {
		for _, u := range l.units {
			if u.name == o.Name() {
				merge(all, u.writes)
			}
		}
		return
	}
	if o.Pkg() != nil && o.Pkg().Path() == "slices" && len(x.Args) > 0 {
		all[elements(l.typeOf(x.Args[0]))] = true
	}
}

func (l *look) dynamic(all map[any]bool, f ast.Expr) {
	if sig, ok := l.typeOf(f).Underlying().(*types.Signature); ok {
		l.shaped(all, sig)
	}
}

// shaped notes what is written by any function that might stand where one of that signature is called.
func (l *look) shaped(all map[any]bool, sig *types.Signature) {
	for _, u := range l.units {
		more := 0
		if u.sig.Recv() != nil {
			more = sig.Params().Len() - u.sig.Params().Len() // a method expression has its object as the first
		}
		if l.values[u] && (more == 0 || more == 1) && u.sig.Params().Len()+more == sig.Params().Len() && u.sig.Results().Len() == sig.Results().Len() {
			merge(all, u.writes)
		}
	}
}
