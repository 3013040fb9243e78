package logic

import (
	"slices"

	"ectype/api"
	"ectype/system"
)

// True returns the states of which a is true, in increasing order.
func True(s api.System, a api.Formula) ([]int, api.Errno) {
	if e := check(s, a); e != api.OK {
		return nil, e
	}
	isTrue := truth(s, a)
	var l []int
	for x := range s.Next {
		if isTrue(api.Value{N: x}) {
			l = append(l, x)
		}
	}
	return l, api.OK
}

// Holds reports whether a is true of x.
func Holds(s api.System, x int, a api.Formula) (bool, api.Errno) {
	if e := check(s, a); e != api.OK {
		return false, e
	}
	if x < 0 || x >= len(s.Next) {
		return false, api.ErrArg
	}
	return truth(s, a)(api.Value{N: x}), api.OK
}

// check returns the error of a system and a formula for its functor, if there is one.
func check(s api.System, a api.Formula) api.Errno {
	if system.Check(s) != api.OK {
		return api.ErrSystem
	}
	if !fits(s.Functor, a) {
		return api.ErrFormula
	}
	return api.OK
}

// predicate reports whether a formula is true of a value. A state is the value of FId with its number.
type predicate func(v api.Value) bool

// truth returns the predicate of a formula for s, or of a value formula in one.
func truth(s api.System, a api.Formula) predicate {
	var parts []predicate
	for _, b := range a.Args {
		parts = append(parts, truth(s, b))
	}
	switch a.Op {
	case api.LTop:
		return func(api.Value) bool { return true }
	case api.LNot:
		return func(v api.Value) bool { return !parts[0](v) }
	case api.LAnd:
		return func(v api.Value) bool { return parts[0](v) && parts[1](v) }
	case api.LStep:
		return ofNext(s, parts[0])
	case api.LState:
		return parts[0]
	case api.LIs:
		return func(v api.Value) bool { return v.N == a.N }
	}
	return ofElements(a, parts[0])
}

// ofNext returns the predicate of the states of whose next values part is true.
// It asks about each state once: otherwise a formula would be asked about all paths with as many steps as it has.
func ofNext(s api.System, part predicate) predicate {
	isTrue := make([]bool, len(s.Next))
	for x, v := range s.Next {
		isTrue[x] = part(v)
	}
	return func(v api.Value) bool { return isTrue[v.N] }
}

// ofElements returns the predicate of a value formula about the elements of values, where part is the predicate of its Args.
func ofElements(a api.Formula, part predicate) predicate {
	switch a.Op {
	case api.LFirst:
		return func(v api.Value) bool { return part(v.Args[0]) }
	case api.LSecond:
		return func(v api.Value) bool { return part(v.Args[1]) }
	case api.LLeft:
		return func(v api.Value) bool { return v.N == 0 && part(v.Args[0]) }
	case api.LRight:
		return func(v api.Value) bool { return v.N == 1 && part(v.Args[0]) }
	case api.LAt:
		return func(v api.Value) bool { return part(v.Args[a.N]) }
	case api.LSome:
		return func(v api.Value) bool { return slices.ContainsFunc(v.Args, part) }
	case api.LMany:
		return func(v api.Value) bool {
			some, _ := weights(v, part)
			return some >= int64(a.N)
		}
	}
	return func(v api.Value) bool {
		// The products of weights are up to the square of MaxWeight, which is more than 32 bits.
		some, all := weights(v, part)
		return some*int64(a.M) >= all*int64(a.N)
	}
}

// weights returns the sum of the weights of the elements of which part is true, and that of all weights.
func weights(v api.Value, part predicate) (some, all int64) {
	for i, w := range v.Weights {
		all += int64(w)
		if part(v.Args[i]) {
			some += int64(w)
		}
	}
	return some, all
}
