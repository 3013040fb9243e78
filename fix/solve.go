package fix

import (
	"slices"

	"ectype/api"
)

// Solve returns the solution of l in s, each set in increasing order.
func Solve(s api.System, l []api.Equation) ([][]int, api.Errno) {
	if e := check(s, l); e != api.OK {
		return nil, e
	}
	var present values
	c := newCompiler(s, &present)
	settle := func() {}
	var uses marks
	for k, body := range slices.Backward(c.bodies(l)) {
		uses.add(l[k].Body)
		v := &level{number: k, uses: uses, present: &present, body: body, inner: settle, greatest: l[k].Greatest}
		if v.greatest {
			v.first = c.states
		}
		settle = v.settle
	}
	settle()
	return lists(present[:len(l)]), api.OK
}

// Apply returns, for each equation, the states of which its Body is true with the given values.
func Apply(s api.System, l []api.Equation, given [][]int) ([][]int, api.Errno) {
	if e := check(s, l); e != api.OK {
		return nil, e
	}
	if len(given) != len(l) || slices.ContainsFunc(given, func(v []int) bool { return !areStates(v, len(s.Next)) }) {
		return nil, api.ErrArg
	}
	var present values
	for k, v := range given {
		present[k] = setOf(v)
	}
	var results []set
	for _, body := range newCompiler(s, &present).bodies(l) {
		results = append(results, body())
	}
	return lists(results), api.OK
}

// areStates reports whether l are some of n states, in strictly increasing order.
func areStates(l []int, n int) bool {
	last := -1
	for _, x := range l {
		if x <= last || x >= n {
			return false
		}
		last = x
	}
	return true
}

// lists returns the elements of each set in increasing order.
func lists(sets []set) [][]int {
	var l [][]int
	for _, s := range sets {
		l = append(l, slices.Collect(s.all()))
	}
	return l
}
