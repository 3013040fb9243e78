package apart

import (
	"testing"

	"ectype/api"
)

// TestDepthOfConjunctions checks that a conjunction is not deeper than it has to be: the deepest parts are below few LAnd.
func TestDepthOfConjunctions(t *testing.T) {
	for _, c := range []struct {
		depths []int // how many LNot there are in each part
		want   int
	}{
		{nil, 1},
		{[]int{0}, 1},
		{[]int{5}, 6},
		{[]int{5, 0}, 7},
		{[]int{0, 0, 0, 0}, 3},
		{[]int{0, 0, 0, 0, 0}, 4},
		{[]int{9, 8, 7, 6, 5, 4, 3, 2, 1, 0}, 11},
		{[]int{90, 0, 0, 0, 0, 0, 0, 0, 0, 0, 0, 0, 0, 0, 0, 0, 0}, 92},
		{make([]int, 64), 7},
	} {
		var l []*formula
		nodes := max(2*len(c.depths)-1, 1)
		for _, depth := range c.depths {
			a := all(nil)
			for range depth {
				a = negated(a)
			}
			l = append(l, a)
			nodes += depth
		}
		if a := all(l); a.depth != c.want || a.size != nodes {
			t.Errorf("%v: depth %d, not %d, %d nodes, not %d", c.depths, a.depth, c.want, a.size, nodes)
		}
	}
}

func TestConjunctions(t *testing.T) {
	is := func(n int) *formula { return made(nil, api.Formula{Op: api.LIs, N: n}) }
	a := all([]*formula{negated(is(1)), negated(is(3)), negated(is(4))})
	for n := range 6 {
		if got := a.isTrue(api.Value{N: n}); got != (n != 1 && n != 3 && n != 4) {
			t.Errorf("of %d: %v", n, got)
		}
	}
}
