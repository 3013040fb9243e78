package value

import (
	"slices"

	"ectype/api"
	"ectype/fold"
)

// Map returns v mapped along to.
func Map(f api.Functor, n int, v api.Value, to []int) (api.Value, api.Errno) {
	if e := Check(f, n, v); e != api.OK {
		return api.Value{}, e
	}
	isState := func(x int) bool { return 0 <= x && x < api.MaxStates }
	if len(to) != n || !all(to, isState) {
		return api.Value{}, api.ErrArg
	}
	return fold.Mapped(f, v, func(x int) int { return to[x] }), api.OK
}

// all reports whether all elements of a list are as asked.
func all[E any](l []E, is func(E) bool) bool {
	return !slices.ContainsFunc(l, func(x E) bool { return !is(x) })
}

// Normal returns the valid value that results from v by ordering and merging its elements.
func Normal(f api.Functor, n int, v api.Value) (api.Value, api.Errno) {
	if e := checkStates(f, n); e != api.OK {
		return api.Value{}, e
	}
	anyOrder := func(api.Functor, api.Value) bool { return true }
	if !fits(f, n, v, anyOrder) {
		return api.Value{}, api.ErrValue
	}
	w := fold.Mapped(f, v, func(x int) int { return x })
	if !fits(f, n, w, isNormal) {
		return api.Value{}, api.ErrLarge
	}
	return w, api.OK
}
