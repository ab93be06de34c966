package lat_test

import (
	"math/bits"
	"slices"
	"strings"
	"testing"

	"chancel/api"
	"chancel/lat"
)

// P1.1: names.
func TestName(t *testing.T) {
	for _, s := range []string{"a", "z", "A", "Z", "a0", "Z9", "Lo", "x1y2z3", strings.Repeat("q", api.MaxName), "a" + strings.Repeat("0", api.MaxName-1)} {
		if !lat.Name(s) {
			t.Errorf("%q is a name", s)
		}
	}
	for _, s := range []string{"", "0", "9a", " a", "a ", "a b", "a_b", "_", "a-", "a\n", "a\x00", "é", "aé", "\xff", "a\xff", "ａ", "a٣", "@", "[", "`", "{", "a@", "a[", "a`", "a{", "a/", "a:", strings.Repeat("q", api.MaxName+1), strings.Repeat("q", 1<<20)} {
		if lat.Name(s) {
			t.Errorf("%q is no name", s)
		}
	}
}

// P1.1: each byte, first and further on.
func TestNameBytes(t *testing.T) {
	const letters = "abcdefghijklmnopqrstuvwxyzABCDEFGHIJKLMNOPQRSTUVWXYZ"
	for c := range 256 {
		s := string([]byte{byte(c)})
		first := strings.Contains(letters, s)
		if lat.Name(s) != first || lat.Name("k"+s) != (first || '0' <= c && c <= '9') {
			t.Errorf("byte %d", c)
		}
	}
}

// P1.1: Leq asks no more of l than that the points are there.
func TestLeq(t *testing.T) {
	for name, l := range samples() {
		for a := range l.Names {
			for b := range l.Names {
				if lat.Leq(l, a, b) != isBelow(l, a, b) {
					t.Fatal(name, a, b)
				}
			}
			for _, odd := range append([]int{len(l.Names)}, oddPlaces...) {
				if lat.Leq(l, a, odd) || lat.Leq(l, odd, a) || lat.Leq(l, odd, odd) {
					t.Fatal(name, a, odd)
				}
			}
		}
	}
}

// P1.1: Leq of what is not right.
func TestLeqWrong(t *testing.T) {
	unordered := lat.Lat{Names: []string{"A", "A", ""}, Up: []uint64{0b110, 0b001, 1 << 63}}
	fewRows := lat.Lat{Names: []string{"A", "B", "C"}, Up: []uint64{7, 7}}
	fewNames := lat.Lat{Names: []string{"A", "B"}, Up: []uint64{7, 7, 7}}
	many := lat.Lat{Names: make([]string, 70), Up: slices.Repeat([]uint64{^uint64(0)}, 70)}
	for _, c := range []struct {
		l    lat.Lat
		a, b int
		want bool
	}{
		{unordered, 0, 0, false}, {unordered, 0, 1, true}, {unordered, 0, 2, true}, {unordered, 1, 0, true}, {unordered, 1, 1, false}, {unordered, 2, 2, false}, {unordered, 2, 63, false},
		{fewRows, 0, 1, true}, {fewRows, 1, 0, true}, {fewRows, 0, 2, false}, {fewRows, 2, 0, false}, {fewRows, 2, 2, false},
		{fewNames, 0, 1, true}, {fewNames, 0, 2, false}, {fewNames, 2, 0, false},
		{many, 0, 63, true}, {many, 69, 63, true}, {many, 0, 64, false}, {many, 0, 69, false}, {many, 69, 0, true}, {many, 70, 0, false},
		{lat.Lat{}, 0, 0, false}, {lat.Lat{Up: []uint64{1}}, 0, 0, false}, {lat.Lat{Names: []string{"A"}}, 0, 0, false},
	} {
		if lat.Leq(c.l, c.a, c.b) != c.want {
			t.Error(c)
		}
	}
}

// P1.2: lattices that are.
func TestRight(t *testing.T) {
	for name, l := range samples() {
		if !lat.Right(l) {
			t.Error(name)
		}
	}
}

// P1.2: whatever one thing is wrong, it is not right.
func TestNotRight(t *testing.T) {
	two := []string{"A", "B"}
	for name, l := range map[string]lat.Lat{
		"nothing":           {},
		"no rows":           {Names: two},
		"no names":          {Up: []uint64{3, 2}},
		"row too few":       {Names: two, Up: []uint64{3}},
		"row too many":      {Names: two, Up: []uint64{3, 2, 4}},
		"65 points":         chain65(),
		"no name":           {Names: []string{"A", "1"}, Up: []uint64{3, 2}},
		"empty name":        {Names: []string{"", "B"}, Up: []uint64{3, 2}},
		"names alike":       {Names: []string{"A", "A"}, Up: []uint64{3, 2}},
		"first, last alike": {Names: []string{"A", "B", "A"}, Up: []uint64{7, 6, 4}},
		"bit beyond":        {Names: two, Up: []uint64{3, 6}},
		"bit 63":            {Names: two, Up: []uint64{3 | 1<<63, 2}},
		"not below itself":  {Names: two, Up: []uint64{3, 0}},
		"below each other":  {Names: two, Up: []uint64{3, 3}},
		"step is missing":   {Names: names(3), Up: []uint64{3, 6, 4}},
		"no join, no meet":  {Names: two, Up: []uint64{1, 2}},
		"no top":            {Names: names(3), Up: []uint64{7, 2, 4}},
		"no bottom":         {Names: names(3), Up: []uint64{5, 6, 4}},
		"two least above":   sixPoints(),
	} {
		if lat.Right(l) {
			t.Error(name)
		}
	}
}

// chain65 is as right as 65 points can be, all whose rows are bits of one word.
func chain65() lat.Lat {
	l := chain(64)
	return lat.Lat{Names: names(65), Up: append(l.Up, 1<<63)}
}

// sixPoints has a bottom and a top, but two points with two least ones above both.
func sixPoints() lat.Lat {
	return lat.Lat{Names: names(6), Up: []uint64{0b111111, 0b111010, 0b111100, 0b101000, 0b110000, 0b100000}}
}

// P1.2, P1.3, P1.4: all relations of few points, held against the chapter's words.
func TestAllRelations(t *testing.T) {
	for n, want := range []int{0, 1, 2, 6, 36} {
		count := 0
		relations(n, func(l lat.Lat) {
			if lat.Right(l) {
				count++
			}
			if n > 0 {
				holds(t, l)
			}
		})
		if count != want {
			t.Error(n, count)
		}
	}
}

// P1.2, P1.3, P1.4: greater orders, from below and from above.
func TestRisingRelations(t *testing.T) {
	for n := 1; n <= 6; n++ {
		rising(n, func(l lat.Lat) {
			holds(t, l)
			holds(t, reversed(l))
		})
	}
}

// holds holds all that is told of l against the model.
func holds(t *testing.T, l lat.Lat) {
	t.Helper()
	want := modelClass(l)
	text := modelText(l)
	back, e := lat.Parse(text)
	if e != want || lat.Right(l) != (want == api.OK) {
		t.Fatal(l, e, want)
	}
	if want != api.OK {
		if back.Names != nil || back.Up != nil || lat.Print(l) != "" || lat.Bottom(l) != -1 || lat.Top(l) != -1 || lat.Join(l, 0, 0) != -1 || lat.Meet(l, 0, 0) != -1 {
			t.Fatal(l, "tells something")
		}
		return
	}
	if lat.Print(l) != text || !slices.Equal(back.Names, l.Names) || !slices.Equal(back.Up, l.Up) {
		t.Fatal(l, "print and parse")
	}
	pointsHold(t, l)
}

// pointsHold holds joins, meets, bottom and top of a right l against the model.
func pointsHold(t *testing.T, l lat.Lat) {
	t.Helper()
	bottom, top := lat.Bottom(l), lat.Top(l)
	if !lat.Leq(l, bottom, bottom) || !lat.Leq(l, top, top) {
		t.Fatal(l, bottom, top)
	}
	for a := range l.Names {
		if !isBelow(l, bottom, a) || !isBelow(l, a, top) {
			t.Fatal(l, bottom, top)
		}
		for b := range l.Names {
			if lat.Join(l, a, b) != modelJoin(l, a, b) || lat.Meet(l, a, b) != modelMeet(l, a, b) {
				t.Fatal(l, a, b)
			}
		}
	}
}

// P1.3: points of greater lattices, to the last bit of a row.
func TestPoints(t *testing.T) {
	for _, l := range samples() {
		pointsHold(t, l)
	}
	c := cube(6)
	for a := range 64 {
		for b := range 64 {
			if lat.Join(c, a, b) != a|b || lat.Meet(c, a, b) != a&b {
				t.Fatal(a, b)
			}
		}
	}
	if lat.Bottom(c) != 0 || lat.Top(c) != 63 || lat.Bottom(fallingChain(64)) != 63 || lat.Top(fallingChain(64)) != 0 {
		t.Error("ends")
	}
}

// P1.3: what is no point has no join, no meet.
func TestNoPoints(t *testing.T) {
	for name, l := range samples() {
		for _, odd := range append([]int{len(l.Names)}, oddPlaces...) {
			for _, got := range []int{lat.Join(l, 0, odd), lat.Join(l, odd, 0), lat.Join(l, odd, odd), lat.Meet(l, 0, odd), lat.Meet(l, odd, 0), lat.Meet(l, odd, odd)} {
				if got != -1 {
					t.Error(name, odd, got)
				}
			}
		}
	}
}

// P1.3: Find asks nothing of l but its Names.
func TestFind(t *testing.T) {
	l := lat.Lat{Names: []string{"B", "a b", "", "A", "B", ""}}
	for name, want := range map[string]int{"B": 0, "a b": 1, "": 2, "A": 3, "a": -1, "b": -1, "A ": -1} {
		if got := lat.Find(l, name); got != want {
			t.Errorf("%q: %d", name, got)
		}
	}
	if lat.Find(lat.Lat{}, "") != -1 || lat.Find(cube(6), names(64)[63]) != 63 {
		t.Error("ends")
	}
}

// P1.5: laws of joins and meets.
func TestLaws(t *testing.T) {
	for name, l := range samples() {
		n := len(l.Names)
		join, meet := tables(l)
		for a := range n {
			for b := range n {
				if join[a][b] != join[b][a] || meet[a][b] != meet[b][a] {
					t.Fatal(name, "commutative", a, b)
				}
				if join[a][meet[a][b]] != a || meet[a][join[a][b]] != a {
					t.Fatal(name, "takes in", a, b)
				}
				for c := range n {
					if join[join[a][b]][c] != join[a][join[b][c]] || meet[meet[a][b]][c] != meet[a][meet[b][c]] {
						t.Fatal(name, "associative", a, b, c)
					}
				}
			}
		}
	}
}

func tables(l lat.Lat) (join, meet [][]int) {
	for a := range l.Names {
		var j, m []int
		for b := range l.Names {
			j = append(j, lat.Join(l, a, b))
			m = append(m, lat.Meet(l, a, b))
		}
		join, meet = append(join, j), append(meet, m)
	}
	return join, meet
}

// P3, P4: nothing handed in is written into, and the same is told again.
func TestNothingIsWritten(t *testing.T) {
	for name, l := range samples() {
		n := len(l.Names)
		roomy := lat.Lat{Names: append(slices.Clone(l.Names), "spare")[:n], Up: append(slices.Clone(l.Up), 99)[:n]}
		for range 2 {
			lat.Right(roomy)
			lat.Join(roomy, 0, n-1)
			lat.Meet(roomy, 0, n-1)
			lat.Bottom(roomy)
			lat.Top(roomy)
			lat.Leq(roomy, 0, n-1)
			lat.Find(roomy, "A")
			if lat.Print(roomy) != modelText(l) {
				t.Error(name, "print")
			}
		}
		if !slices.Equal(roomy.Names, l.Names) || !slices.Equal(roomy.Up, l.Up) || roomy.Names[:n+1][n] != "spare" || roomy.Up[:n+1][n] != 99 {
			t.Error(name, "is written into")
		}
	}
}

// P1, P6: lattices of any size and any rows are looked at to the end.
func TestAnyLat(t *testing.T) {
	for _, n := range []int{0, 1, 2, 63, 64, 65, 200} {
		for _, rows := range []int{0, 1, n, n + 1, 300} {
			for _, row := range []uint64{0, 1, 1 << 63, ^uint64(0)} {
				l := lat.Lat{Names: names(n), Up: slices.Repeat([]uint64{row}, rows)}
				right := n == 1 && rows == 1 && row == 1
				if lat.Right(l) != right || (lat.Print(l) != "") != right || lat.Join(l, 0, 0) != lat.Bottom(l) || lat.Meet(l, 0, 0) != lat.Top(l) {
					t.Error(n, rows, bits.OnesCount64(row))
				}
			}
		}
	}
}
