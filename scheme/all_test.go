package scheme_test

import (
	"math/rand"
	"slices"
	"sync"
	"testing"

	"chancel/atom"
	"chancel/lat"
	"chancel/ltype"
	"chancel/scheme"
	"chancel/shape"
)

// makes holds what is made of x and c against the model, and what follows of it; and tells it.
func makes(t *testing.T, w world, x ltype.Type, c []atom.Pair) scheme.Scheme {
	t.Helper()
	s := scheme.Make(w.Lat, x, c)
	if want := w.make(x, c); !modelSame(s, want) {
		t.Fatal(w.Lat, ltype.Text(w.Names, x), atom.Texts(w.Names, c), "made", modelText(w.Names, s), "not", modelText(w.Names, want))
	}
	stays(t, w, s)
	return s
}

// stays asks whether s, which Make has told, is made again of its instances, and is as general as itself.
func stays(t *testing.T, w world, s scheme.Scheme) {
	t.Helper()
	for _, next := range []int{0, 3, 1000} {
		x, c, _ := scheme.Inst(s, next)
		if again := scheme.Make(w.Lat, x, c); !modelSame(again, s) {
			t.Fatal(w.Lat, next, modelText(w.Names, s), "made again", modelText(w.Names, again))
		}
	}
	if !scheme.Order(w.Lat, s, s) || !scheme.Same(s, s) {
		t.Fatal(w.Lat, modelText(w.Names, s), "is not as general as itself")
	}
}

// P14.1, P14.3: all small types, with labels that may be each other's, and points, and all rows of a few pairs, against the model.
func TestAllMakes(t *testing.T) {
	for _, l := range small() {
		w := newWorld(l)
		labels := []atom.Atom{pt(len(l.Names) / 2), 0, 5}
		of := pairs([]atom.Atom{pt(0), pt(len(l.Names) - 1), 0, 5, 1})
		for _, s := range shapesTo(3, in, ref) {
			n := 1
			if s.Kind != shape.Fun {
				n = 2
			}
			rows(count(s), labels, func(labels []atom.Atom) {
				x := laid(s, labels)
				makes(t, w, x, nil)
				if count(s) > 5 && (labels[0] != 0 || labels[1] != 5) { // of the many of these, some
					return
				}
				rows(n, of, func(c []atom.Pair) { makes(t, w, x, c) })
			})
		}
	}
}

// P14.1: points that a lattice has not, and lattices that are not right, among those that are.
func TestAllUnknown(t *testing.T) {
	nothing := 0
	for _, l := range append(small(), wrong()...) {
		w := newWorld(l)
		atoms := []atom.Atom{pt(len(l.Names)), pt(max(len(l.Names)-1, 0)), 0, 1}
		for _, s := range []shape.Shape{in, ref, fun(in, in)} {
			rows(count(s), atoms, func(labels []atom.Atom) {
				x := laid(s, labels)
				for _, c := range append(pairs(atoms), pair(7, pt(len(l.Names)+1))) {
					if makes(t, w, x, []atom.Pair{c}).S.Kind == 0 {
						nothing++
					}
				}
			})
		}
	}
	if nothing < 10000 {
		t.Error(nothing)
	}
}

// P14.1, P12.4: what is made asks of the labels of a type just what lets the type stand there.
func TestAllSolutions(t *testing.T) {
	solved := 0
	for _, l := range []lat.Lat{chain(2), fallingChain(2), chain(3), cube(2)} {
		w := newWorld(l)
		of := []atom.Atom{pt(0), pt(1), 0, 1, 2}
		if len(l.Names) > 2 {
			of = []atom.Atom{pt(1), 0, 1}
		}
		for _, s := range []shape.Shape{in, ref, fun(in, in)} {
			labels := []atom.Atom{pt(1), 0, 1}
			if len(l.Names) > 3 && s.Kind == shape.Fun {
				continue
			}
			rows(count(s), labels, func(labels []atom.Atom) {
				x := laid(s, labels)
				for _, p := range pairs(of) {
					c := []atom.Pair{p, pair(0, 2), pair(2, 1)}
					places, all := asks(x, c)
					want := w.holds(all, len(places), len(atom.Vars(all))-len(places))
					if !slices.Contains(want, true) {
						continue
					}
					solved++
					if got := w.holds(scheme.Make(l, x, c).Con, len(places), 0); !slices.Equal(got, want) {
						t.Fatal(l, ltype.Text(l.Names, x), atom.Texts(l.Names, c))
					}
				}
			})
		}
	}
	if solved < 5000 {
		t.Error(solved)
	}
}

// P14.2: all two schemes of a few pairs, whoever told them, against the model.
func TestAllOrders(t *testing.T) {
	yes, no := 0, 0
	for _, l := range append(small(), wrong()[:4]...) {
		w := newWorld(l)
		atoms := []atom.Atom{pt(len(l.Names)), pt(max(len(l.Names)-1, 0)), pt(0), 0, 1}
		var all []scheme.Scheme
		for n := range 3 {
			rows(n, pairs(atoms), func(c []atom.Pair) { all = append(all, scheme.Scheme{S: ref, Con: c}) })
		}
		for i, x := range all {
			for j := i % 7; j < len(all); j += 7 {
				got := scheme.Order(l, x, all[j])
				if got != w.order(x, all[j]) {
					t.Fatal(l, modelText(l.Names, x), modelText(l.Names, all[j]), got)
				}
				if got {
					yes++
				} else {
					no++
				}
				if scheme.Same(x, all[j]) != modelSame(x, all[j]) {
					t.Fatal(i, j, "Same")
				}
			}
		}
	}
	if yes < 10000 || no < 10000 {
		t.Error(yes, no)
	}
}

// P14.2: all small shapes, right and not, at numbers of labels of all kinds, against the model.
func TestAllInsts(t *testing.T) {
	shapes := shapesTo(7, in, ref, hole(3))
	for _, s := range []shape.Shape{{}, {Kind: 5}, {Kind: -1}, {Kind: 1, N: 1}, {Kind: 2, Kids: []shape.Shape{in}}, {Kind: 3}, {Kind: 3, Kids: []shape.Shape{in}}, {Kind: 3, N: 1, Kids: []shape.Shape{in, in}}, hole(-1), {Kind: 4, Kids: []shape.Shape{in}}} {
		shapes = append(shapes, s, fun(s, in), fun(ref, fun(in, s)))
	}
	for i, s := range shapes {
		for _, c := range [][]atom.Pair{nil, {pair(2, 3), pair(lo, 0), pair(9, hi)}, {pair(0, 0), pair(1000, 1000)}} {
			told := scheme.Scheme{S: s, Con: c}
			for _, next := range []int{0, 1, 77, -1, -2, -100} {
				x, got, after := scheme.Inst(told, next)
				y, want, behind := modelInst(told, next)
				if !ltype.Same(x, y) || !slices.Equal(got, want) || after != behind {
					t.Fatal(s, c, next, x, got, after)
				}
			}
			if got := scheme.Text(two.Names, told); got != modelText(two.Names, told) {
				t.Fatal(s, c, got)
			}
		}
		for j, r := range shapes {
			if same := scheme.Same(scheme.Scheme{S: s}, scheme.Scheme{S: r}); same != modelSameShape(s, r) || scheme.Order(two, scheme.Scheme{S: s}, scheme.Scheme{S: r}) != same {
				t.Fatal(i, j, same)
			}
		}
	}
}

// chanceShape tells a right shape without Holes by chance, of a Size of about that.
func chanceShape(c *rand.Rand, size int) shape.Shape {
	if size < 3 {
		return []shape.Shape{in, ref}[c.Intn(2)]
	}
	first := 1 + c.Intn(size-2)
	return fun(chanceShape(c, first), chanceShape(c, size-1-first))
}

// chanceType tells a type of s by chance, whose labels are of so many variables, and, more rarely, points of l.
func chanceType(c *rand.Rand, l lat.Lat, s shape.Shape, vars, rare int) ltype.Type {
	labels := make([]atom.Atom, count(s))
	for i := range labels {
		labels[i] = chanceAtom(c, l, vars, rare)
	}
	return laid(s, labels)
}

func chanceAtom(c *rand.Rand, l lat.Lat, vars, rare int) atom.Atom {
	if c.Intn(rare) == 0 {
		return pt(c.Intn(len(l.Names)))
	}
	return atom.Atom(c.Intn(vars))
}

func chancePairs(c *rand.Rand, l lat.Lat, n, vars, rare int) []atom.Pair {
	var told []atom.Pair
	for range n {
		x := chanceAtom(c, l, vars, rare)
		told = append(told, pair(x, chanceAtom(c, l, vars, rare)))
	}
	return told
}

// P14.1 to P14.3: greater types, and longer rows, by chance, the same ones each time; what is told of more Pairs is not more general than what is told of fewer.
func TestChance(t *testing.T) {
	c := rand.New(rand.NewSource(14))
	asked, more, less := 0, 0, 0
	for _, l := range great() {
		w := newWorld(l)
		for range 150 {
			s := chanceShape(c, 1+c.Intn(14))
			vars, rare := 1+c.Intn(40), 2+c.Intn(30)
			x := chanceType(c, l, s, vars, rare)
			few := chancePairs(c, l, c.Intn(2*vars), vars, rare)
			many := append(slices.Clone(few), chancePairs(c, l, c.Intn(4), vars, rare)...)
			c.Shuffle(len(many), func(i, j int) { many[i], many[j] = many[j], many[i] })
			a, b := makes(t, w, x, few), makes(t, w, x, many)
			asked += len(a.Con)
			if !scheme.Order(l, a, b) || !w.order(a, b) {
				t.Fatal(l, modelText(l.Names, a), modelText(l.Names, b))
			}
			got := scheme.Order(l, b, a)
			if got != w.order(b, a) {
				t.Fatal(l, modelText(l.Names, a), modelText(l.Names, b), got)
			}
			if got {
				more++
			} else {
				less++
			}
			y := chanceType(c, l, s, vars, rare)
			other := makes(t, w, y, few)
			if scheme.Order(l, a, other) != w.order(a, other) || scheme.Order(l, other, a) != w.order(other, a) {
				t.Fatal(l, modelText(l.Names, a), modelText(l.Names, other))
			}
			if scheme.Text(l.Names, a) != modelText(l.Names, a) {
				t.Fatal(scheme.Text(l.Names, a))
			}
		}
	}
	if asked < 10000 || more < 200 || less < 200 {
		t.Error(asked, more, less)
	}
}

// P14.2: schemes that Make has not told, by chance, whose pairs follow along long ways.
func TestChanceOrders(t *testing.T) {
	c := rand.New(rand.NewSource(15))
	yes, no := 0, 0
	for _, l := range great() {
		w := newWorld(l)
		for range 2000 {
			vars, rare := 1+c.Intn(12), 2+c.Intn(12)
			a := scheme.Scheme{S: in, Con: chancePairs(c, l, 1+c.Intn(2), vars, rare)}
			b := scheme.Scheme{S: in, Con: chancePairs(c, l, c.Intn(3*vars), vars, rare)}
			got := scheme.Order(l, a, b)
			if got != w.order(a, b) {
				t.Fatal(l, modelText(l.Names, a), modelText(l.Names, b), got)
			}
			if got {
				yes++
			} else {
				no++
			}
		}
	}
	if yes < 3000 || no < 3000 {
		t.Error(yes, no)
	}
}

// P14.1: the names of the variables do not matter, whichever they are.
func TestChanceNumbers(t *testing.T) {
	c := rand.New(rand.NewSource(16))
	for range 3000 {
		s := chanceShape(c, 1+c.Intn(9))
		x := chanceType(c, four, s, 9, 6)
		ask := chancePairs(c, four, c.Intn(12), 9, 6)
		from := []atom.Atom{0, 1, 2, 3, 4, 5, 6, 7, 8}
		to := make([]atom.Atom, len(from))
		start, step := c.Intn(30), 1+c.Intn(30)
		if c.Intn(2) == 0 {
			start = 1<<63 - 1 - 8*step
		}
		for i, at := range c.Perm(len(to)) {
			to[at] = atom.Atom(start + i*step)
		}
		got, want := scheme.Make(four, ltype.Rename(x, from, to), atom.Rename(ask, from, to)), scheme.Make(four, x, ask)
		if !modelSame(got, want) {
			t.Fatal(ltype.Text(four.Names, x), atom.Texts(four.Names, ask), to)
		}
	}
}

// P3, P4: what is handed in stays as it is, and so does what stands behind it; what is told is new memory, and the same again.
func TestMemory(t *testing.T) {
	all := []atom.Pair{pair(3, 6), pair(pt(1), 2), pair(6, 5), pair(4, 5), pair(9, 9), pair(5, pt(0))}
	kids := []ltype.Type{cell(3, 4), number(5), number(77)}
	x := arrow(0, 1, 2, kids[:2]...)
	l := lat.Lat{Names: append(slices.Clone(two.Names), "spare")[:2], Up: append(slices.Clone(two.Up), 99)[:2]}
	was := slices.Clone(all)
	const want = "(ref@'3['4] -'1,'2-> int@'5)@'0 | Hi <= '2, '3 <= '5, '4 <= '5"
	for range 3 {
		s := scheme.Make(l, x, all[:5])
		if scheme.Text(l.Names, s) != want || !scheme.Order(l, s, s) {
			t.Error(scheme.Text(l.Names, s))
		}
		y, c, _ := scheme.Inst(s, 0)
		y.Kids[0].L, y.L = 88, 88
		clear(y.Kids)
		clear(c)
		_ = append(c, pair(55, 56))
		if scheme.Text(l.Names, s) != want {
			t.Error("what is told of an instance is a part of the scheme")
		}
		clear(s.Con)
		s.S.Kids[0].Kind = 9
		clear(s.S.Kids)
		_ = append(s.Con, pair(55, 56))
	}
	if !slices.Equal(all, was) || ltype.Text(l.Names, x) != "(ref@'3['4] -'1,'2-> int@'5)@'0" || kids[2].L != 77 || !slices.Equal(l.Names, two.Names) || !slices.Equal(l.Up, two.Up) || l.Names[:3][2] != "spare" || l.Up[:3][2] != 99 {
		t.Error(all, x, l)
	}
	a, b := scheme.Scheme{S: in, Con: all[:2]}, scheme.Scheme{S: in, Con: all[3:5]}
	scheme.Order(l, a, b)
	scheme.Order(l, scheme.Scheme{S: in, Con: all[:3]}, scheme.Scheme{S: in, Con: all[:5]})
	if !slices.Equal(all, was) {
		t.Error(all)
	}
}

// P4: many at once, of one type and one scheme, tell what one does.
func TestAtOnce(t *testing.T) {
	c := []atom.Pair{pair(3, 6), pair(pt(1), 2), pair(6, 5), pair(4, 5)}
	x := arrow(0, 1, 2, cell(3, 4), number(5))
	want := scheme.Make(two, x, c)
	text := scheme.Text(two.Names, want)
	var all sync.WaitGroup
	for range 8 {
		all.Go(func() {
			for i := range 100 {
				s := scheme.Make(two, x, c)
				y, d, after := scheme.Inst(want, i)
				if !scheme.Same(s, want) || !scheme.Order(two, want, s) || scheme.Text(two.Names, want) != text || after != i+6 || !scheme.Same(scheme.Make(two, y, d), want) {
					t.Error(i)
				}
			}
		})
	}
	all.Wait()
}
