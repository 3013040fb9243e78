package value

import (
	"slices"

	"ectype/api"
)

// Map returns v mapped along to.
func Map(f api.Functor, n int, v api.Value, to []int) (api.Value, api.Errno) {
	if e := Check(f, n, v); e != api.OK {
		return api.Value{}, e
	}
	isState := func(x int) bool { return 0 <= x && x < api.MaxStates }
	if len(to) != n || !all(to, isState) {
		return api.Value{}, api.ErrArg
	}
	return image(f, v, func(x int) int { return to[x] }), api.OK
}

// all reports whether all elements of a list are as asked.
func all[E any](l []E, is func(E) bool) bool {
	return !slices.ContainsFunc(l, func(x E) bool { return !is(x) })
}

// Normal returns the valid value that results from v by ordering and merging its elements.
func Normal(f api.Functor, n int, v api.Value) (api.Value, api.Errno) {
	if e := checkStates(f, n); e != api.OK {
		return api.Value{}, e
	}
	anyOrder := func(api.Functor, api.Value) bool { return true }
	if !fits(f, n, v, anyOrder) {
		return api.Value{}, api.ErrValue
	}
	w := image(f, v, func(x int) int { return x })
	if !fits(f, n, w, isNormal) {
		return api.Value{}, api.ErrLarge
	}
	return w, api.OK
}

// image returns v, a value of f, in which each state x is replaced by to(x), in normal form.
func image(f api.Functor, v api.Value, to func(x int) int) api.Value {
	var visit func(f api.Functor, v api.Value) api.Value
	visit = func(f api.Functor, v api.Value) api.Value {
		if f.Kind == api.FId {
			return api.Value{N: to(v.N)}
		}
		w := api.Value{N: v.N}
		for i, a := range v.Args {
			w.Args = append(w.Args, visit(functorOf(i, f, v), a))
		}
		if isCollection(f) {
			return collect(f, w.Args, v.Weights)
		}
		return w
	}
	return visit(f, v)
}

// element is an element of a set, a multiset or a distribution; in a set its weight is 0.
type element struct {
	value  api.Value
	weight int
}

// collect returns the set, multiset or distribution of elements in normal form.
func collect(f api.Functor, args []api.Value, weights []int) api.Value {
	var l []element
	for i, a := range args {
		l = append(l, element{value: a})
		if f.Kind != api.FPow {
			l[i].weight = weights[i]
		}
	}
	var v api.Value
	for _, x := range merge(l) {
		v.Args = append(v.Args, x.value)
		if f.Kind != api.FPow {
			v.Weights = append(v.Weights, x.weight)
		}
	}
	if f.Kind == api.FDist {
		reduce(v.Weights)
	}
	return v
}

// merge sorts the list and returns its elements, in which equal ones are one whose weight is the sum.
func merge(l []element) []element {
	slices.SortFunc(l, func(x, y element) int { return Compare(x.value, y.value) })
	var merged []element
	for _, x := range l {
		last := len(merged) - 1
		if last >= 0 && Compare(merged[last].value, x.value) == 0 {
			merged[last].weight += x.weight
			continue
		}
		merged = append(merged, x)
	}
	return merged
}

// reduce divides the weights by their greatest common divisor.
func reduce(weights []int) {
	d := divisor(weights)
	for i := range weights {
		weights[i] /= d
	}
}
