package logic

import (
	"ectype/api"
	"ectype/system"
	"ectype/truth"
)

// True returns the states of which a is true, in increasing order.
func True(s api.System, a api.Formula) ([]int, api.Errno) {
	if e := check(s, a); e != api.OK {
		return nil, e
	}
	isTrue := predicate(s, a)
	var l []int
	for x := range s.Next {
		if isTrue(api.Value{N: x}) {
			l = append(l, x)
		}
	}
	return l, api.OK
}

// Holds reports whether a is true of x.
func Holds(s api.System, x int, a api.Formula) (bool, api.Errno) {
	if e := check(s, a); e != api.OK {
		return false, e
	}
	if x < 0 || x >= len(s.Next) {
		return false, api.ErrArg
	}
	return predicate(s, a)(api.Value{N: x}), api.OK
}

// check returns the error of a system and a formula for its functor, if there is one.
func check(s api.System, a api.Formula) api.Errno {
	if system.Check(s) != api.OK {
		return api.ErrSystem
	}
	if !fits(s.Functor, a) {
		return api.ErrFormula
	}
	return api.OK
}

// predicate returns the predicate of a formula for s, or of a value formula in one.
func predicate(s api.System, a api.Formula) truth.Predicate {
	var parts []truth.Predicate
	for _, b := range a.Args {
		parts = append(parts, predicate(s, b))
	}
	return truth.Of(s.Next, a, parts)
}
