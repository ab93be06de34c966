package lat_test

import (
	"math"
	"strings"

	"chancel/api"
	"chancel/lat"
)

// The model: the chapter's sentences word for word, by loops over points, to hold the package against.

var oddPlaces = []int{math.MinInt, -64, -1, 64, 65, 128, math.MaxInt}

func isBelow(l lat.Lat, a, b int) bool {
	return l.Up[a]&(uint64(1)<<uint(b)) != 0
}

func isOrder(l lat.Lat) bool {
	n := len(l.Names)
	for a := range n {
		if !isBelow(l, a, a) {
			return false
		}
		for b := range n {
			if a != b && isBelow(l, a, b) && isBelow(l, b, a) {
				return false
			}
			for c := range n {
				if isBelow(l, a, b) && isBelow(l, b, c) && !isBelow(l, a, c) {
					return false
				}
			}
		}
	}
	return true
}

// modelJoin tells the point that a and b are below, and that is below all such; -1, if there is none.
func modelJoin(l lat.Lat, a, b int) int {
	n := len(l.Names)
	for j := range n {
		ok := isBelow(l, a, j) && isBelow(l, b, j)
		for k := 0; ok && k < n; k++ {
			ok = !(isBelow(l, a, k) && isBelow(l, b, k)) || isBelow(l, j, k)
		}
		if ok {
			return j
		}
	}
	return -1
}

// modelMeet tells the point below a and b that all such are below; -1, if there is none.
func modelMeet(l lat.Lat, a, b int) int {
	n := len(l.Names)
	for m := range n {
		ok := isBelow(l, m, a) && isBelow(l, m, b)
		for k := 0; ok && k < n; k++ {
			ok = !(isBelow(l, k, a) && isBelow(l, k, b)) || isBelow(l, k, m)
		}
		if ok {
			return m
		}
	}
	return -1
}

// modelClass tells what is the matter with the rows of l, whose names are right and as many.
func modelClass(l lat.Lat) api.Errno {
	if !isOrder(l) {
		return api.ErrOrder
	}
	for a := range l.Names {
		for b := range l.Names {
			if modelJoin(l, a, b) < 0 || modelMeet(l, a, b) < 0 {
				return api.ErrLat
			}
		}
	}
	return api.OK
}

func modelText(l lat.Lat) string {
	text := strings.Join(l.Names, " ") + "\n"
	for a := range l.Names {
		for b := range l.Names {
			if isBelow(l, a, b) {
				text += "1"
			} else {
				text += "0"
			}
		}
		text += "\n"
	}
	return text
}

// build makes l of n points from what is below what.
func build(n int, below func(a, b int) bool) lat.Lat {
	l := lat.Lat{Names: names(n), Up: make([]uint64, n)}
	for a := range n {
		for b := range n {
			if below(a, b) {
				l.Up[a] |= uint64(1) << uint(b)
			}
		}
	}
	return l
}

func names(n int) []string {
	out := []string{}
	for i := range n {
		out = append(out, string(rune('A'+i%26))+strings.Repeat("x", i/26))
	}
	return out
}

func chain(n int) lat.Lat {
	return build(n, func(a, b int) bool { return a <= b })
}

func fallingChain(n int) lat.Lat {
	return build(n, func(a, b int) bool { return a >= b })
}

// cube is the sets of n things, a point for each.
func cube(n int) lat.Lat {
	return build(1<<uint(n), func(a, b int) bool { return a&^b == 0 })
}

// fan is a bottom 0, a top n - 1, and points between of which none is below another.
func fan(n int) lat.Lat {
	return build(n, func(a, b int) bool { return a == b || a == 0 || b == n-1 })
}

// grid is the pairs of numbers below n, the greatest first.
func grid(n int) lat.Lat {
	return build(n*n, func(a, b int) bool { return a/n >= b/n && a%n >= b%n })
}

func divisors(n int) lat.Lat {
	var all []int
	for d := 1; d <= n; d++ {
		if n%d == 0 {
			all = append(all, d)
		}
	}
	return build(len(all), func(a, b int) bool { return all[b]%all[a] == 0 })
}

func samples() map[string]lat.Lat {
	return map[string]lat.Lat{
		"one": chain(1), "two": chain(2), "chain": chain(9), "long chain": chain(64), "falling": fallingChain(64),
		"diamond": cube(2), "cube": cube(6), "fan": fan(5), "wide fan": fan(64), "grid": grid(8), "divisors": divisors(360),
	}
}

// relations hands in each relation over n points.
func relations(n int, see func(l lat.Lat)) {
	for bits := range uint64(1) << uint(n*n) {
		see(build(n, func(a, b int) bool { return bits>>uint(a*n+b)&1 == 1 }))
	}
}

// rising hands in each relation over n points in which each is below itself, and none below a lesser one.
func rising(n int, see func(l lat.Lat)) {
	for bits := range uint64(1) << uint(n*(n-1)/2) {
		see(build(n, func(a, b int) bool { return a == b || a < b && bits>>uint(b*(b-1)/2+a)&1 == 1 }))
	}
}

func reversed(l lat.Lat) lat.Lat {
	n := len(l.Names)
	return build(n, func(a, b int) bool { return isBelow(l, n-1-a, n-1-b) })
}
