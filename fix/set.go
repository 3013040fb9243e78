package fix

import (
	"iter"
	"math/bits"

	"ectype/api"
)

// set is a set of states: a bit for each of them.
type set [(api.MaxStates + 63) / 64]uint64

// setOf returns the set of some states.
func setOf(l []int) set {
	var s set
	for _, x := range l {
		s.put(x, true)
	}
	return s
}

// has reports whether x is an element.
func (s set) has(x int) bool {
	return s[x/64]>>(x%64)&1 == 1
}

// put makes x an element, or not.
func (s *set) put(x int, isElement bool) {
	if s.has(x) != isElement {
		s[x/64] ^= 1 << (x % 64)
	}
}

// all returns the elements in increasing order.
func (s set) all() iter.Seq[int] {
	return func(yield func(int) bool) {
		for i, word := range s {
			for ; word != 0; word &= word - 1 {
				if !yield(64*i + bits.TrailingZeros64(word)) {
					return
				}
			}
		}
	}
}

// and returns the elements of both sets.
func (s set) and(t set) set {
	for i := range s {
		s[i] &= t[i]
	}
	return s
}

// or returns the elements of some of both sets.
func (s set) or(t set) set {
	for i := range s {
		s[i] |= t[i]
	}
	return s
}

// xor returns the elements of just one of both sets.
func (s set) xor(t set) set {
	for i := range s {
		s[i] ^= t[i]
	}
	return s
}

// isWithin reports whether all elements are elements of t.
func (s set) isWithin(t set) bool {
	return s.and(t) == s
}
