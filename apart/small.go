package apart

import (
	"slices"

	"ectype/api"
	"ectype/lift"
)

// Small returns a bisimulation that contains the pair of x and y, but no other pair without which it is a bisimulation, too.
func Small(s, t api.System, x, y int) ([][2]int, api.Errno) {
	_, differ, e := Depth(s, t, x, y)
	if e != api.OK {
		return nil, e
	}
	if differ {
		return nil, api.ErrNone
	}
	return ordered(thinned(s, t, grown(s, t, x, y), [2]int{x, y})), api.OK
}

// unknown stands for no number of a pair.
const unknown = -1

// thinned removes pairs, one after the other, without which the bisimulation r is one, but not a given pair.
func thinned(s, t api.System, r [][2]int, given [2]int) [][2]int {
	left := lift.NewRelation(s, t, r)
	for i := range r {
		left.Holds(i)
	}
	kept := r
	// As long as there is a pair that did not hold without another one, it does not hold without it when there are fewer pairs, either.
	needers := slices.Repeat([]int{unknown}, len(r))
	for before := len(r) + 1; len(kept) < before; {
		before = len(kept)
		for i, p := range r {
			if p == given || !left.Has(i) || needers[i] != unknown && left.Has(needers[i]) {
				continue
			}
			needers[i] = needer(left, i)
			if needers[i] == unknown {
				left.Remove(i)
				kept = without(kept, slices.Index(kept, p))
			}
		}
	}
	return kept
}

// needer returns the number of some pair that does not hold without that with the number i, or unknown if there is none.
func needer(r *lift.Relation, i int) int {
	r.Remove(i)
	defer r.Restore(i)
	for _, j := range r.Users(i) {
		if !r.Holds(j) {
			return j
		}
	}
	return unknown
}

// without returns a copy of the list without the element at i.
func without[E any](l []E, i int) []E {
	rest := make([]E, len(l)-1)
	copy(rest, l[:i])
	copy(rest[i:], l[i+1:])
	return rest
}
