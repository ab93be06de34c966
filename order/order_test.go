// Package order_test looks for lines whose answer hangs on an order of evaluation that Go leaves open: the calls in one statement come one behind the other, but whether a variable that stands beside a call is read ahead of it or behind it is open. No test by inputs shows such a line, as one compiler has one order.
package order_test

import (
	"go/ast"
	"go/parser"
	"path/filepath"
	"slices"
	"strings"
	"testing"
)

// folders tells the packages of the project, those with files that are not tests.
func folders(t *testing.T) []string {
	t.Helper()
	files, err := filepath.Glob("../*/*.go")
	if err != nil {
		t.Fatal(err)
	}
	var all []string
	for _, f := range files {
		if !strings.HasSuffix(f, "_test.go") {
			all = append(all, filepath.Base(filepath.Dir(f)))
		}
	}
	return slices.Compact(all)
}

// P4, P8.3: no line of the program reads what a call beside it may put another in the place of.
func TestProgram(t *testing.T) {
	all := folders(t)
	if len(all) < 23 {
		t.Fatal(all)
	}
	l := newLook("..")
	for _, dir := range all {
		if _, err := l.Import("chancel/" + dir); err != nil {
			t.Fatal(dir, err)
		}
	}
	if len(l.units) < 200 {
		t.Error("functions seen:", len(l.units))
	}
	for _, f := range l.faults() {
		t.Error(f)
	}
}

// sample is what the lines below stand in.
const sample = `package sample

import "slices"

type node struct{ up, kids int }
type box struct {
	nodes []node
	names map[string]int
	next int
	row [4]int
	last node
	do func() int
}

func (u *box) add() int { u.nodes = append(u.nodes, node{}); return len(u.nodes) - 1 }
func (u *box) addAll() int { return u.add() + u.add() }
func (u *box) up() int { u.nodes[0].up++; return u.nodes[0].up }
func (u *box) fresh() int { u.next++; return u.next }
func (u *box) renew() int { u.names = map[string]int{}; return 0 }
func (u *box) name() int { u.names["x"] = 1; return 1 }
func (u *box) mark() int { u.row[0] = 1; return 1 }
func (u *box) close() int { u.last = node{}; return 0 }
func (u *box) find() int { return len(u.nodes) - 1 }
func (u *box) sort() int { slices.SortFunc(u.nodes, func(a, b node) int { return a.up - b.up }); return 0 }
func through(p *int) int { *p = 7; return *p }
func run(do func() int) int { return do() }
func two(a, b int) int { return a + b }
func (u box) told(n int) int { return u.next + n }

func try(u *box, l []int, n int) (int, int) {
	`

// P4: lines that Go leaves open are found, and those beside them, whose order is sure, are not.
func TestSamples(t *testing.T) {
	for _, c := range []struct {
		line  string
		fault bool
	}{
		{"u.nodes[n].kids = u.add()", true},
		{"kids := u.add(); u.nodes[n].kids = kids", false},
		{"u.nodes[n].kids = u.addAll()", true},
		{"u.nodes[n].kids = u.find()", false},
		{"u.nodes[n].kids = u.sort()", false},
		{"n = u.nodes[n].kids + u.sort()", true},
		{"n = u.nodes[u.find()].up", false},
		{"n = u.nodes[u.add()].up", true},
		{"n = u.nodes[0].up + u.up()", true},
		{"n = u.nodes[0].kids + u.up()", false},
		{"m := u.nodes[0]; _, n = m, u.up()", false},
		{"m, k := u.nodes[0], u.up(); _, _ = m, k", true},
		{"return u.next, u.fresh()", true},
		{"return u.fresh(), u.next", true},
		{"return u.fresh(), u.fresh()", false},
		{"return n, u.fresh()", false},
		{"u.next = u.fresh()", false},
		{"u.next += u.fresh()", true},
		{"l[u.next] = u.fresh()", true},
		{"l[n] = u.fresh()", false},
		{"l[u.fresh()] = u.fresh()", false},
		{"n = two(u.next, u.fresh())", true},
		{"n = two(u.fresh(), u.fresh())", false},
		{"n = two(u.find(), u.next)", false},
		{"m := node{up: u.next, kids: u.fresh()}; _ = m", true},
		{"m := node{up: u.find(), kids: u.fresh()}; _ = m", false},
		{"l = append(l, u.fresh())", false},
		{"u.nodes = append(u.nodes, node{up: u.add()})", true},
		{"u.nodes = append(u.nodes, node{up: u.fresh()})", false},
		{"if u.next > 0 && u.fresh() > 0 || u.next == 9 { n++ }", false},
		{"if u.next == u.fresh() { n++ }", true},
		{"switch u.fresh() { case u.next: n++ }", false},
		{"u.names[\"x\"] = u.renew()", true},
		{"u.names[\"x\"] = u.name()", false},
		{"n = u.names[\"x\"] + u.name()", true},
		{"n = u.row[1] + u.mark()", true},
		{"u.row[1] = u.mark()", false},
		{"n = u.last.up + u.close()", true},
		{"u.last.up = u.close()", false},
		{"n = n + through(&n)", true},
		{"n = through(&n)", false},
		{"n = u.next + through(&n)", false},
		{"m := 0; n = m + func() int { m++; return m }()", true},
		{"m := 0; n = m + run(func() int { m++; return m })", true},
		{"m := 0; n = n + run(func() int { m++; return m })", false},
		{"n = u.next + run(u.fresh)", true},
		{"n = u.next + run(u.find)", false},
		{"m := 0; u.do = func() int { m++; return m }; n = m + u.do()", true},
		{"m := 0; count := func() int { m++; return m }; n = m + count()", true},
		{"m := 0; var down func(k int) int; down = func(k int) int { w := k; w++; if k > 9 { return w }; return w + down(k + 1) }; n = m + down(0)", false},
		{"var b box; n = b.told(b.fresh())", true},
		{"var b box; n = b.told(u.find())", false},
		{"for i := range l { n = i + u.next }; n = u.fresh()", false},
		{"n = (*u).next + u.fresh()", true},
		{"p := &u.next; n = *p + through(p)", true},
		{"var row [4]int; n = row[u.next] + u.fresh()", true},
		{"var row [4]int; n = row[n] + u.fresh()", false},
		{"var row [4]int; n = row[u.find()] + u.fresh()", false},
		{"var row [4]int; n = through(&row[0]) + row[0]", true},
		{"var b box; b.next, n = u.fresh(), b.next", false},
		{"var b box; b.next, n = b.fresh(), b.next", true},
		{"var b box; n = b.last.up + b.close()", true},
		{"var b box; n = b.last.up + u.close()", false},
		{"var b, c box; n = b.last.up + c.close()", false},
		{"p := &u.next; n = *p + u.fresh()", true},
		{"p := &u.last; n = p.up + u.close()", true},
		{"p := &u.last; m, k := *p, u.close(); _, _ = m, k", true},
		{"p := &u.last; m, k := *p, u.find(); _, _ = m, k", false},
	} {
		l := newLook("")
		f, err := parser.ParseFile(l.fset, "sample.go", sample+c.line+"; return n, 0 }\n", 0)
		if err != nil {
			t.Fatal(c.line, err)
		}
		if _, err := l.check("sample", []*ast.File{f}); err != nil {
			t.Fatal(c.line, err)
		}
		if told := l.faults(); len(told) > 0 != c.fault {
			t.Error(c.line, told)
		}
	}
}
