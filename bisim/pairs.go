package bisim

import (
	"cmp"
	"maps"
	"slices"

	"ectype/api"
	"ectype/system"
)

// Compose returns the pairs (x, z) for which some (x, y) is in r and (y, z) in q.
func Compose(r, q [][2]int) [][2]int {
	after := map[int][]int{}
	for _, p := range different(q) {
		after[p[0]] = append(after[p[0]], p[1])
	}
	found := map[[2]int]bool{}
	for _, p := range different(r) {
		for _, z := range after[p[1]] {
			found[[2]int{p[0], z}] = true
		}
	}
	return slices.SortedFunc(maps.Keys(found), compare)
}

// different returns the different ones of some pairs, in increasing order.
func different(pairs [][2]int) [][2]int {
	l := slices.Clone(pairs)
	slices.SortFunc(l, compare)
	return slices.Compact(l)
}

// Closure returns the class of each state in the least equivalence relation that contains r.
func Closure(s api.System, r [][2]int) ([]int, api.Errno) {
	if system.Check(s) != api.OK {
		return nil, api.ErrSystem
	}
	n := len(s.Next)
	if !isRelation(r, n, n) {
		return nil, api.ErrArg
	}
	first := make([]int, n) // the first state of the class of each state
	for x := range first {
		first[x] = x
	}
	for _, p := range r {
		join(first, first[p[0]], first[p[1]])
	}
	classes := make([]int, n)
	many := 0
	for x, y := range first {
		if x == y {
			classes[x] = many
			many++
		}
		classes[x] = classes[y]
	}
	return classes, api.OK
}

// join makes one class of those with the first states x and y.
func join(first []int, x, y int) {
	for z, f := range first {
		if f == x || f == y {
			first[z] = min(x, y)
		}
	}
}

// compare compares pairs by their first components, then by the second ones.
func compare(p, q [2]int) int {
	return cmp.Or(cmp.Compare(p[0], q[0]), cmp.Compare(p[1], q[1]))
}

// isRelation reports whether r is a list of pairs of states, of n and of m ones, in strictly increasing order.
func isRelation(r [][2]int, n, m int) bool {
	for i, p := range r {
		if p[0] < 0 || p[0] >= n || p[1] < 0 || p[1] >= m {
			return false
		}
		if i > 0 && compare(r[i-1], p) >= 0 {
			return false
		}
	}
	return true
}

// allPairs returns the relation of all pairs of n and m states.
func allPairs(n, m int) [][2]int {
	var r [][2]int
	for x := range n {
		for y := range m {
			r = append(r, [2]int{x, y})
		}
	}
	return r
}

// memberOf returns a function that reports which pairs are in r.
func memberOf(r [][2]int) func(x, y int) bool {
	isIn := map[[2]int]bool{}
	for _, p := range r {
		isIn[p] = true
	}
	return func(x, y int) bool {
		return isIn[[2]int{x, y}]
	}
}
