package shape

import (
	"maps"
	"slices"
)

// Unify tells the most general substitution that goes on from l and makes a and b the same, and whether there is one.
func Unify(l []Bind, a, b Shape) ([]Bind, bool) {
	if !inOrder(l) || !Right(a) || !Right(b) {
		return nil, false
	}
	u := unifier{holes: map[int]int{}}
	for _, bind := range l {
		stands := u.enter(bind.S)
		u.holes[bind.N] = stands
	}
	if !u.join(u.enter(a), u.enter(b)) {
		return nil, false
	}
	return u.binds()
}

// inOrder asks whether l is a substitution that changes nothing of what it has put in.
func inOrder(l []Bind) bool {
	counts := map[int]int{}
	last := -1
	for _, b := range l {
		if b.N <= last || !Right(b.S) || Size(b.S) > Most {
			return false
		}
		last = b.N
		count(b.S, counts)
	}
	return !slices.ContainsFunc(l, func(b Bind) bool { return counts[b.N] > 0 })
}

// node is a shape that is unified with others. What it is made the same as is told by up, another node, or itself, if it stands for all of them. Kids is the node of a Fun's first Kid; that of the second is the next one.
type node struct {
	of   *Shape
	up   int
	kids int
}

// unifier has a node for each shape in what it is given, so that nothing is copied ahead of the answer: what is put in for Holes may be far greater than both. Of each Hole's number holes has the node that was met first, or that of what stands for it by a Bind.
type unifier struct {
	nodes []node
	holes map[int]int
}

// enter makes the nodes of s and of all in it, and tells the first.
func (u *unifier) enter(s Shape) int {
	first := u.add(&s)
	for i := first; i < len(u.nodes); i++ {
		x := u.nodes[i].of
		switch x.Kind {
		case Hole:
			u.meet(i, x.N)
		case Fun:
			kids := u.add(&x.Kids[0]) // on a line of its own: add may put another list into nodes, and Go leaves open which one a line with both would write into
			u.add(&x.Kids[1])
			u.nodes[i].kids = kids
		}
	}
	return first
}

func (u *unifier) add(s *Shape) int {
	i := len(u.nodes)
	u.nodes = append(u.nodes, node{of: s, up: i})
	return i
}

// meet makes node i, a Hole of that number, the same as those of its number that were met ahead of it.
func (u *unifier) meet(i, number int) {
	if was, ok := u.holes[number]; ok {
		u.nodes[i].up = was
		return
	}
	u.holes[number] = i
}

// find tells the node that stands for node i. It shortens the way there: else many ways would grow long.
func (u *unifier) find(i int) int {
	for u.nodes[i].up != i {
		u.nodes[i].up = u.nodes[u.nodes[i].up].up
		i = u.nodes[i].up
	}
	return i
}

// join makes a and b the same, with all in them that has to be the same then, and tells whether they can be.
func (u *unifier) join(a, b int) bool {
	left := [][2]int{{a, b}}
	for len(left) > 0 {
		a, b := u.find(left[len(left)-1][0]), u.find(left[len(left)-1][1])
		left = left[:len(left)-1]
		if a == b {
			continue
		}
		if ahead(u.nodes[b].of, u.nodes[a].of) {
			a, b = b, a
		}
		x, y := u.nodes[a], u.nodes[b]
		if y.of.Kind != Hole && y.of.Kind != x.of.Kind {
			return false
		}
		if y.of.Kind == Fun {
			left = append(left, [2]int{x.kids, y.kids}, [2]int{x.kids + 1, y.kids + 1})
		}
		u.nodes[b].up = a
	}
	return true
}

// ahead asks whether a is to stand for b, not b for a.
func ahead(a, b *Shape) bool {
	return b.Kind == Hole && (a.Kind != Hole || a.N < b.N)
}

// binds tells the Binds of all Holes that do not stand for themselves, and whether all of them are small enough.
func (u *unifier) binds() ([]Bind, bool) {
	numbers := slices.DeleteFunc(slices.Sorted(maps.Keys(u.holes)), u.free)
	ok := true
	told := turned(numbers, func(n int) Bind {
		b := Bind{N: n}
		if ok {
			b.S, ok = u.shape(u.holes[n])
		}
		return b
	})
	if !ok {
		return nil, false
	}
	return told, true
}

// free asks whether the Hole of that number stands for itself.
func (u *unifier) free(number int) bool {
	s := u.nodes[u.find(u.holes[number])].of
	return s.Kind == Hole && s.N == number
}

// shape tells what node i has become, and whether its Size is at most Most. A shape that would stand in itself is none, and is found here, too: it has no end, so its Size is too great; and there is a Hole that would have it.
func (u *unifier) shape(i int) (Shape, bool) {
	size := 0
	var of func(i int) Shape
	of = func(i int) Shape {
		size++
		x := u.nodes[u.find(i)]
		s := Shape{Kind: x.of.Kind, N: x.of.N}
		if s.Kind == Fun && size <= Most {
			s.Kids = turned([]int{x.kids, x.kids + 1}, of)
		}
		return s
	}
	s := of(i)
	return s, size <= Most
}
