package prog_test

import (
	"math"
	"slices"
	"sort"
	"strconv"
	"strings"
	"testing"

	"chancel/api"
	"chancel/prog"
	"chancel/term"
)

// holds holds what is told of p against the model, and tells whether p is right.
func holds(t *testing.T, p prog.Prog) bool {
	t.Helper()
	want, ok := modelPrint(p)
	got := prog.Print(p)
	if prog.Right(p) != ok || got != want || ok != (got != "") {
		t.Fatalf("%v: %t, %.200q, not %t, %.200q", prog.Size(p), prog.Right(p), got, ok, want)
	}
	if !prog.Same(p, p) {
		t.Fatalf("%.200q is not the same as itself", got)
	}
	if !ok {
		return false
	}
	back, e := prog.Parse(got)
	if e != api.OK || !prog.Same(back, p) || !prog.Right(back) || prog.Print(back) != got {
		t.Fatalf("%.200q is parsed as %.200q, %d", got, prog.Print(back), e)
	}
	return true
}

// P6.1, P6.2: a program with two of each kind, to the letter.
func TestSome(t *testing.T) {
	p := some()
	if !prog.Right(p) || prog.Print(p) != someText || prog.Size(p) != 4+3+7 {
		t.Error(prog.Right(p), prog.Print(p), prog.Size(p))
	}
	for _, c := range []struct {
		p    prog.Prog
		want string
		size int
	}{
		{prog.Prog{Body: num(0)}, "0\n", 1},
		{prog.Prog{Body: v("x")}, "x\n", 1},
		{prog.Prog{Inputs: []prog.Decl{{Name: "x", Label: "x"}}, Body: in(v("x"), 2, term.Get)}, "input x : x .\n! ( ! x )\n", 3},
		{prog.Prog{Cells: []prog.Decl{{Name: "A1", Label: "b2", N: 2147483647}}, Body: num(2147483647)}, "cell A1 : b2 = 2147483647 .\n2147483647\n", 1},
		{prog.Prog{Defs: []prog.Def{{Name: "f", T: of(term.Fun, "f", v("f"))}}, Body: v("f")}, "def f = fun f => f .\nf\n", 3},
		{prog.Prog{Inputs: []prog.Decl{{Name: "a", Label: "L"}, {Name: "a", Label: "L"}}, Cells: []prog.Decl{{Name: "a", Label: "L"}}, Body: v("z")}, "input a : L .\ninput a : L .\ncell a : L = 0 .\nz\n", 1},
		{prog.Prog{Inputs: []prog.Decl{}, Cells: []prog.Decl{}, Defs: []prog.Def{}, Body: term.Term{Kind: term.Num, N: 5, Kids: []term.Term{}}}, "5\n", 1},
	} {
		if !holds(t, c.p) || prog.Print(c.p) != c.want || prog.Size(c.p) != c.size {
			t.Errorf("%q, not %q; %d", prog.Print(c.p), c.want, prog.Size(c.p))
		}
	}
}

// names has what may be a name, then what may not.
var (
	names    = []string{"a", "Z", "x9", "Fun", "inputs", "celldef", strings.Repeat("q", 16)}
	notNames = append([]string{"", " ", "9", "9a", "a b", " a", "a ", "a.", "a_", "ä", "a\n", "a\x00", "?", ".", ":", "=", "7", strings.Repeat("q", 17), strings.Repeat("q", 1000)}, keywords...)
)

// changed has ways to make another program of some, each in one place, which is held against whether it is right then.
func changed() map[string]func(p *prog.Prog) bool {
	all := map[string]func(p *prog.Prog) bool{}
	decls := func(kind string, of func(p *prog.Prog) []prog.Decl) {
		for i := range 2 {
			at := kind + strconv.Itoa(i)
			for j, s := range slices.Concat(names, notNames) {
				ok := j < len(names)
				all[at+" is named "+s] = func(p *prog.Prog) bool { of(p)[i].Name = s; return ok }
				all[at+" is labelled "+s] = func(p *prog.Prog) bool { of(p)[i].Label = s; return ok }
			}
			for _, n := range []int64{1, 2, 9, 100, 1<<31 - 2, 1<<31 - 1} {
				all[at+" begins with "+strconv.FormatInt(n, 10)] = func(p *prog.Prog) bool { of(p)[i].N = n; return kind == "cell" }
			}
			for _, n := range []int64{-1, -2, math.MinInt32, 1 << 31, 1 << 32, 1<<32 + 1, math.MaxInt64, math.MinInt64} {
				all[at+" begins with "+strconv.FormatInt(n, 10)] = func(p *prog.Prog) bool { of(p)[i].N = n; return false }
			}
		}
	}
	decls("input", func(p *prog.Prog) []prog.Decl { return p.Inputs })
	decls("cell", func(p *prog.Prog) []prog.Decl { return p.Cells })
	for i := range 2 {
		at := "def" + strconv.Itoa(i)
		for j, s := range slices.Concat(names, notNames) {
			all[at+" is named "+s] = func(p *prog.Prog) bool { p.Defs[i].Name = s; return j < len(names) }
		}
		for j, x := range slices.Concat(rightFuns(), rightOthers(), wrongTerms()) {
			all[at+" is term "+strconv.Itoa(j)] = func(p *prog.Prog) bool { p.Defs[i].T = x; return j < len(rightFuns()) }
		}
	}
	for j, x := range slices.Concat(rightFuns(), rightOthers(), wrongTerms()) {
		all["body is term "+strconv.Itoa(j)] = func(p *prog.Prog) bool { p.Body = x; return j < len(rightFuns())+len(rightOthers()) }
	}
	all["inputs end early"] = func(p *prog.Prog) bool { p.Inputs = p.Inputs[:1]; return true }
	all["cells end early"] = func(p *prog.Prog) bool { p.Cells = p.Cells[:1]; return true }
	all["defs end early"] = func(p *prog.Prog) bool { p.Defs = p.Defs[:1]; return true }
	all["no inputs"] = func(p *prog.Prog) bool { p.Inputs = nil; return true }
	all["no cells"] = func(p *prog.Prog) bool { p.Cells = []prog.Decl{}; return true }
	all["no defs"] = func(p *prog.Prog) bool { p.Defs = nil; return true }
	all["inputs turned"] = func(p *prog.Prog) bool { slices.Reverse(p.Inputs); return true }
	all["cells turned"] = func(p *prog.Prog) bool { slices.Reverse(p.Cells); return true }
	all["defs turned"] = func(p *prog.Prog) bool { slices.Reverse(p.Defs); return true }
	all["an input more"] = func(p *prog.Prog) bool { p.Inputs = append(p.Inputs, p.Inputs[1]); return true }
	all["a cell more"] = func(p *prog.Prog) bool { p.Cells = append(p.Cells, p.Cells[1]); return true }
	all["a def more"] = func(p *prog.Prog) bool { p.Defs = append(p.Defs, p.Defs[1]); return true }
	all["a wrong input more"] = func(p *prog.Prog) bool { p.Inputs = append(p.Inputs, prog.Decl{}); return false }
	all["a wrong cell more"] = func(p *prog.Prog) bool { p.Cells = append(p.Cells, prog.Decl{}); return false }
	all["a wrong def more"] = func(p *prog.Prog) bool { p.Defs = append(p.Defs, prog.Def{}); return false }
	return all
}

func rightFuns() []term.Term {
	return []term.Term{of(term.Fun, "x", v("x")), of(term.Fun, "a", of(term.Fun, "b", num(1))), of(term.Fun, "x", in(v("x"), 198, term.Raise))}
}

func rightOthers() []term.Term {
	return []term.Term{num(1), v("f"), of(term.Let, "x", num(1), v("x")), of(term.Try, "x", num(1), of(term.Fun, "x", v("x"))), of(term.Seq, "", of(term.Fun, "x", v("x")), num(0)), in(v("x"), 199, term.Get)}
}

func wrongTerms() []term.Term {
	return []term.Term{{}, num(-1), v("fun"), v(""), of(term.Fun, "x"), of(term.Fun, "", v("x")), of(term.Fun, "in", v("x")), of(term.Fun, "x", v("x"), v("x")), of(term.Fun, "x", num(1<<31)), of(99, "x", v("x")), of(-1, ""), of(term.Fun, "x", in(v("x"), 199, term.Raise)), in(v("x"), 200, term.Get), of(term.Fun, "x", flat(10001)), flat(10001)}
}

// P6.1, P6.2, P6.4: whatever is changed in one place of a program.
func TestRight(t *testing.T) {
	right, wrong := 0, 0
	for how, change := range changed() {
		p := some()
		ok := change(&p)
		if holds(t, p) != ok {
			t.Errorf("%.60s: %t, not %t", how, !ok, ok)
		}
		if ok {
			right++
		} else {
			wrong++
		}
	}
	if right < 80 || wrong < 300 {
		t.Error(right, wrong)
	}
}

// P6.1: all fields are asked, one by one; and two right programs are printed alike just if they are the same.
func TestSame(t *testing.T) {
	all := []prog.Prog{{}, {Inputs: []prog.Decl{{}}}, {Cells: []prog.Decl{{}}}, {Defs: []prog.Def{{}}}, {Inputs: []prog.Decl{{}, {}}}, {Defs: []prog.Def{{Name: "x"}}}, {Inputs: []prog.Decl{{N: math.MinInt64}}}, {Body: num(1)}, {Body: of(0, "", num(1))}}
	for _, change := range changed() {
		p := some()
		change(&p)
		all = append(all, p)
	}
	var keys []string
	for _, p := range all {
		keys = append(keys, key(p))
	}
	texts := map[string]prog.Prog{}
	for i, a := range all {
		for j, b := range all {
			if prog.Same(a, b) != (keys[i] == keys[j]) {
				t.Fatalf("%d, %d: %q, %q", i, j, prog.Print(a), prog.Print(b))
			}
		}
		s := prog.Print(a)
		if other, ok := texts[s]; ok && s != "" && !prog.Same(a, other) {
			t.Errorf("printed alike: %q", s)
		}
		texts[s] = a
	}
	if !prog.Same(prog.Prog{}, prog.Prog{Inputs: []prog.Decl{}, Cells: []prog.Decl{}, Defs: []prog.Def{}, Body: term.Term{Kids: []term.Term{}}}) {
		t.Error("nil is not the same as what is empty") // P5
	}
}

// key tells all that is in p, however it is made.
func key(p prog.Prog) string {
	var b strings.Builder
	word := func(s string) { b.WriteString(strings.ReplaceAll(s, "\\", "\\\\") + "\\;") }
	number := func(n int64) {
		for i := range 8 {
			b.WriteByte(byte(n >> (8 * i)))
		}
	}
	decls := func(l []prog.Decl) {
		number(int64(len(l)))
		for _, d := range l {
			word(d.Name)
			word(d.Label)
			number(d.N)
		}
	}
	var whole func(t term.Term)
	whole = func(t term.Term) {
		number(int64(t.Kind))
		word(t.Name)
		number(t.N)
		number(int64(len(t.Kids)))
		for _, k := range t.Kids {
			whole(k)
		}
	}
	decls(p.Inputs)
	decls(p.Cells)
	number(int64(len(p.Defs)))
	for _, d := range p.Defs {
		word(d.Name)
		whole(d.T)
	}
	whole(p.Body)
	return b.String()
}

// P6.1: the Sizes of all terms, right or not, and of nothing else.
func TestSize(t *testing.T) {
	for want, p := range map[int]prog.Prog{
		1:     {},
		2:     {Body: of(term.Get, "", num(1))},
		3:     {Defs: []prog.Def{{}, {Name: "x"}}},
		4:     {Defs: []prog.Def{{T: of(99, "?", term.Term{}, term.Term{})}}, Inputs: make([]prog.Decl, 50), Cells: make([]prog.Decl, 50)},
		301:   {Defs: []prog.Def{{T: in(num(1), 299, term.Get)}}},
		20001: {Defs: []prog.Def{{T: flat(9999)}, {T: flat(10001)}}},
		41:    {Defs: make([]prog.Def, 40)},
	} {
		if got := prog.Size(p); got != want {
			t.Error(got, want)
		}
	}
}

// P6.1: how many there may be of each kind.
func TestMany(t *testing.T) {
	counts := []int{0, 1, 31, 32, 33, 34, 100}
	for _, i := range counts {
		for _, c := range counts {
			for _, d := range counts {
				p := full(i, c, d)
				if holds(t, p) != (i <= 32 && c <= 32 && d <= 32) {
					t.Error(i, c, d)
				}
			}
		}
	}
}

// filled is a right program, but for how long its print is, whose print is that long, which is 40000 to 70000.
func filled(t *testing.T, length int) prog.Prog {
	p := some()
	p.Body = flat(9001)
	body := &p.Defs[1].T.Kids[0]
	size := sort.Search(9990, func(n int) bool {
		*body = flat(n + 1)
		return len(modelText(p)) > length
	})
	*body = flat(size)
	p.Defs[0].Name += strings.Repeat("a", length-len(modelText(p)))
	if got := len(modelText(p)); got != length || !modelSound(p) {
		t.Fatal(got, length, modelSound(p))
	}
	return p
}

// P6.1, P6.2, P6.4: how long a print may be.
func TestLength(t *testing.T) {
	for _, length := range []int{40000, 65000, 65534, 65535, 65536, 65537, 65538, 65600, 70000} {
		p := filled(t, length)
		if holds(t, p) != (length <= 65536) || prog.Right(p) && len(prog.Print(p)) != length {
			t.Error(length)
		}
		for _, change := range []func(){
			func() { p.Inputs[0].Name += "a" }, func() { p.Inputs[1].Label += "a" }, func() { p.Cells[0].Name += "a" }, func() { p.Cells[1].Label += "a" }, func() { p.Cells[0].N += 10 },
		} {
			change()
			length++
			if holds(t, p) != (length <= 65536) {
				t.Error(length)
			}
		}
	}
	wide := prog.Prog{Body: flat(9999)}
	for range 32 {
		wide.Defs = append(wide.Defs, prog.Def{Name: "f", T: of(term.Fun, "x", flat(9998))})
	}
	if holds(t, wide) || !modelSound(wide) {
		t.Error("is right")
	}
}

// P1: any plain value may be handed in.
func TestAnything(t *testing.T) {
	deep := in(num(1), 3000000, term.Get)
	for _, p := range []prog.Prog{
		{Body: deep}, {Defs: []prog.Def{{Name: "f", T: deep}}, Body: num(1)}, {Defs: []prog.Def{{Name: "f", T: of(term.Fun, "x", deep)}}, Body: num(1)},
		{Inputs: make([]prog.Decl, 1<<20), Cells: make([]prog.Decl, 1<<20), Defs: make([]prog.Def, 1<<20)},
		{Inputs: make([]prog.Decl, 32), Cells: make([]prog.Decl, 32), Defs: make([]prog.Def, 32)},
		{Inputs: []prog.Decl{{Name: strings.Repeat("a", 1<<24), Label: "\xff"}}, Body: num(1)},
		{Defs: []prog.Def{{Name: "f", T: term.Term{Kind: math.MinInt, Name: "\xff", N: math.MinInt64, Kids: make([]term.Term, 1<<20)}}}},
	} {
		if prog.Right(p) || prog.Print(p) != "" || !prog.Same(p, p) || prog.Same(p, some()) || prog.Same(some(), p) {
			t.Error(prog.Size(p))
		}
	}
	if got := prog.Size(prog.Prog{Defs: []prog.Def{{T: deep}}, Body: deep}); got != 6000002 {
		t.Error(got)
	}
}

// P3, P4: nothing handed in is written into, and the same is told again.
func TestNothingIsWritten(t *testing.T) {
	p, before := some(), some()
	p.Inputs = append(p.Inputs, prog.Decl{Name: "spare"})[:2]
	p.Cells = append(p.Cells, prog.Decl{Name: "spare"})[:2]
	p.Defs = append(p.Defs, prog.Def{Name: "spare"})[:2]
	for range 3 {
		if prog.Print(p) != someText || !prog.Right(p) || prog.Size(p) != 14 || !prog.Same(p, before) {
			t.Fatal(prog.Print(p))
		}
	}
	if key(p) != key(before) || p.Inputs[:3][2].Name != "spare" || p.Cells[:3][2].Name != "spare" || p.Defs[:3][2].Name != "spare" {
		t.Error("is written into")
	}
}
