package sample

import (
	"slices"

	"ectype/api"
)

// Memory remembers the lists of all that it is shown, by their first elements. Its methods report whether none of them shares memory with one of those before.
type Memory map[any]bool

// isNew reports whether a list has not been seen before. One without elements has memory, too, if it has room for some.
func isNew[E any](m Memory, l []E) bool {
	if cap(l) == 0 {
		return true
	}
	first := &l[:1][0]
	seen := m[first]
	m[first] = true
	return !seen
}

// Numbers looks at a list of numbers.
func (m Memory) Numbers(l []int) bool { return isNew(m, l) }

// Functor looks at all lists of a functor.
func (m Memory) Functor(f api.Functor) bool {
	ok := isNew(m, f.Args)
	for _, a := range f.Args {
		ok = m.Functor(a) && ok
	}
	return ok
}

// Values looks at a list of values, and at all lists in them.
func (m Memory) Values(l []api.Value) bool {
	ok := isNew(m, l)
	for _, v := range l {
		ok = isNew(m, v.Weights) && m.Values(v.Args) && ok
	}
	return ok
}

// System looks at all lists of a system.
func (m Memory) System(s api.System) bool {
	return m.Functor(s.Functor) && m.Values(s.Next)
}

// Terms looks at a list of terms, and at all lists in them.
func (m Memory) Terms(l []api.Term) bool {
	ok := isNew(m, l)
	for _, t := range l {
		ok = m.Parts(t.Body) && ok
	}
	return ok
}

// Parts looks at a list of parts, and at all lists in them.
func (m Memory) Parts(l []api.Part) bool {
	ok := isNew(m, l)
	for _, p := range l {
		ok = isNew(m, p.Weights) && m.Parts(p.Args) && m.Terms(p.Terms) && ok
	}
	return ok
}

// Roomy returns the list with what change returns for its elements, and room for one more, which is there already.
func Roomy[E any](l []E, change func(E) E, beyond E) []E {
	var room []E
	for _, x := range l {
		room = append(room, change(x))
	}
	return append(room, beyond)[:len(l)]
}

// RoomyTerm returns t in new memory, with more memory beyond its lists.
func RoomyTerm(t api.Term) api.Term {
	return api.Term{Var: t.Var, Body: Roomy(t.Body, roomyPart, api.Part{N: 9})}
}

func roomyPart(p api.Part) api.Part {
	return api.Part{
		N: p.N, Args: Roomy(p.Args, roomyPart, api.Part{N: 7}), Terms: Roomy(p.Terms, RoomyTerm, api.Term{Var: 8}), Weights: Roomy(p.Weights, itself, -5),
	}
}

// RoomyValue returns v in new memory, with more memory beyond its lists.
func RoomyValue(v api.Value) api.Value {
	return api.Value{N: v.N, Args: Roomy(v.Args, RoomyValue, api.Value{N: -7}), Weights: Roomy(v.Weights, itself, -5)}
}

func itself(n int) int { return n }

// SameRoom reports whether two lists are equal, also one element beyond their lengths.
func SameRoom[E any](l, m []E, same func(E, E) bool) bool {
	return len(l) == len(m) && slices.EqualFunc(further(l), further(m), same)
}

// further returns the list with one more element, if it has the memory.
func further[E any](l []E) []E { return l[:min(len(l)+1, cap(l))] }

// SameTerms reports whether two terms are equal, also one element beyond the lengths of their lists.
func SameTerms(t, u api.Term) bool {
	return t.Var == u.Var && SameRoom(t.Body, u.Body, sameParts)
}

func sameParts(p, q api.Part) bool {
	return p.N == q.N && SameRoom(p.Args, q.Args, sameParts) && SameRoom(p.Terms, q.Terms, SameTerms) && SameRoom(p.Weights, q.Weights, areEqual)
}

// SameValues reports whether two values are equal, also one element beyond the lengths of their lists.
func SameValues(v, w api.Value) bool {
	return v.N == w.N && SameRoom(v.Args, w.Args, SameValues) && SameRoom(v.Weights, w.Weights, areEqual)
}

func areEqual(n, k int) bool { return n == k }
