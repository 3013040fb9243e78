// Package truth says what a formula is true of, if it is known what its Args are true of.
package truth

import (
	"slices"

	"ectype/api"
)

// Predicate reports whether a formula is true of a value. A state is the value of FId with its number.
type Predicate func(v api.Value) bool

// Of returns the predicate of a from those of its Args. The states have these next values.
func Of(next []api.Value, a api.Formula, parts []Predicate) Predicate {
	switch a.Op {
	case api.LTop:
		return func(api.Value) bool { return true }
	case api.LNot:
		return func(v api.Value) bool { return !parts[0](v) }
	case api.LAnd:
		return func(v api.Value) bool { return parts[0](v) && parts[1](v) }
	case api.LStep:
		return ofNext(next, parts[0])
	case api.LState:
		return parts[0]
	case api.LIs:
		return func(v api.Value) bool { return v.N == a.N }
	}
	return ofElements(a, parts[0])
}

// ofNext returns the predicate of the states of whose next values part is true.
// It asks about each state at most once: otherwise a formula would be asked about all paths with as many steps as it has.
func ofNext(next []api.Value, part Predicate) Predicate {
	isKnown, isTrue := make([]bool, len(next)), make([]bool, len(next))
	return func(v api.Value) bool {
		x := v.N
		if !isKnown[x] {
			isTrue[x] = part(next[x])
			isKnown[x] = true
		}
		return isTrue[x]
	}
}

// ofElements returns the predicate of a value formula about the elements of values, where part is the predicate of its Args.
func ofElements(a api.Formula, part Predicate) Predicate {
	switch a.Op {
	case api.LFirst:
		return func(v api.Value) bool { return part(v.Args[0]) }
	case api.LSecond:
		return func(v api.Value) bool { return part(v.Args[1]) }
	case api.LLeft:
		return func(v api.Value) bool { return v.N == 0 && part(v.Args[0]) }
	case api.LRight:
		return func(v api.Value) bool { return v.N == 1 && part(v.Args[0]) }
	case api.LAt:
		return func(v api.Value) bool { return part(v.Args[a.N]) }
	case api.LSome:
		return func(v api.Value) bool { return slices.ContainsFunc(v.Args, part) }
	case api.LMany:
		return func(v api.Value) bool {
			some, _ := weights(v, part)
			return some >= int64(a.N)
		}
	}
	return func(v api.Value) bool {
		// The products of weights are up to the square of MaxWeight, which is more than 32 bits.
		some, all := weights(v, part)
		return some*int64(a.M) >= all*int64(a.N)
	}
}

// weights returns the sum of the weights of the elements of which part is true, and that of all weights.
func weights(v api.Value, part Predicate) (some, all int64) {
	for i, w := range v.Weights {
		all += int64(w)
		if part(v.Args[i]) {
			some += int64(w)
		}
	}
	return some, all
}
