package system

import (
	"slices"

	"ectype/api"
	"ectype/fold"
)

// Is reports whether h is a homomorphism from s to t.
func Is(s, t api.System, h []int) (bool, api.Errno) {
	if e := checkBoth(s, t); e != api.OK {
		return false, e
	}
	if len(h) != len(s.Next) || !areStates(h, len(t.Next)) {
		return false, api.OK
	}
	for x, v := range images(s, h) {
		if !sameValue(v, t.Next[h[x]]) {
			return false, api.OK
		}
	}
	return true, api.OK
}

// Quotient returns the system with just the states in to for which to is a homomorphism from s.
func Quotient(s api.System, to []int) (api.System, api.Errno) {
	if Check(s) != api.OK {
		return api.System{}, api.ErrSystem
	}
	if len(to) != len(s.Next) || !areStates(to, api.MaxStates) || !hasNoGap(to) {
		return api.System{}, api.ErrArg
	}
	t := api.System{Functor: fold.Copy(s.Functor), Next: make([]api.Value, after(to))}
	isSet := make([]bool, len(t.Next))
	for x, v := range images(s, to) {
		y := to[x]
		if isSet[y] && !sameValue(v, t.Next[y]) {
			return api.System{}, api.ErrNone
		}
		t.Next[y], isSet[y] = v, true
	}
	return t, api.OK
}

// hasNoGap reports whether all numbers from 0 to the greatest one occur in the list.
func hasNoGap(l []int) bool {
	for y := range after(l) {
		if !slices.Contains(l, y) {
			return false
		}
	}
	return true
}

// after returns the least number from 0 on that is greater than all in the list.
func after(l []int) int {
	n := 0
	for _, y := range l {
		n = max(n, y+1)
	}
	return n
}
