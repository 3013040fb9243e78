package fold

import (
	"cmp"
	"slices"

	"ectype/api"
)

// Replaced returns v, a value of f, in new memory and in normal form, with what leaf returns in the place of each state.
func Replaced(f api.Functor, v api.Value, leaf func(api.Value) api.Value) api.Value {
	return Of(f, v, leaf, func(f api.Functor, v api.Value, args []api.Value) api.Value {
		if IsCollection(f) {
			return collected(f, args, v.Weights)
		}
		return api.Value{N: v.N, Args: args}
	})
}

// Mapped returns v, a value of f, in new memory and in normal form, with to(x) in the place of each state x.
func Mapped(f api.Functor, v api.Value, to func(x int) int) api.Value {
	return Replaced(f, v, func(u api.Value) api.Value { return api.Value{N: to(u.N)} })
}

// element is an element of a set, a multiset or a distribution; in a set its weight is 0.
type element struct {
	value  api.Value
	weight int
}

// collected returns the set, multiset or distribution of elements that may be equal and in any order.
func collected(f api.Functor, args []api.Value, weights []int) api.Value {
	var l []element
	for i, a := range args {
		l = append(l, element{value: a})
		if f.Kind != api.FPow {
			l[i].weight = weights[i]
		}
	}
	var v api.Value
	for _, x := range merged(l) {
		v.Args = append(v.Args, x.value)
		if f.Kind != api.FPow {
			v.Weights = append(v.Weights, x.weight)
		}
	}
	if f.Kind == api.FDist {
		reduce(v.Weights)
	}
	return v
}

// merged sorts the list and returns its elements, in which equal ones are one whose weight is the sum.
func merged(l []element) []element {
	slices.SortFunc(l, func(x, y element) int { return Compare(x.value, y.value) })
	var m []element
	for _, x := range l {
		last := len(m) - 1
		if last >= 0 && Compare(m[last].value, x.value) == 0 {
			m[last].weight += x.weight
			continue
		}
		m = append(m, x)
	}
	return m
}

// reduce divides the weights by their greatest common divisor.
func reduce(weights []int) {
	d := Divisor(weights)
	for i := range weights {
		weights[i] /= d
	}
}

// Divisor returns the greatest common divisor of the weights; 0 if there are none.
func Divisor(weights []int) int {
	d := 0
	for _, w := range weights {
		for w != 0 {
			d, w = w, d%w
		}
	}
	return d
}

// Compare compares any two trees in the order of values.
func Compare(u, v api.Value) int {
	if u.N != v.N {
		return cmp.Compare(u.N, v.N)
	}
	if c := compareLists(u.Args, v.Args, Compare); c != 0 {
		return c
	}
	return compareLists(u.Weights, v.Weights, cmp.Compare)
}

// compareLists compares two lists by their first elements that differ, or else by their lengths.
func compareLists[E any](l, m []E, compare func(E, E) int) int {
	for i := range min(len(l), len(m)) {
		if c := compare(l[i], m[i]); c != 0 {
			return c
		}
	}
	return cmp.Compare(len(l), len(m))
}
