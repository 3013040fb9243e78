package system

import (
	"slices"

	"ectype/api"
	"ectype/fold"
	"ectype/value"
)

// Sum returns the sum of two systems.
func Sum(s, t api.System) (api.System, api.Errno) {
	if e := checkBoth(s, t); e != api.OK {
		return api.System{}, e
	}
	first, second := len(s.Next), len(t.Next)
	if first+second > api.MaxStates || nodes(s.Next)+nodes(t.Next) > api.MaxTotal {
		return api.System{}, api.ErrLarge
	}
	next := images(s, numbers(0, first))
	next = append(next, images(t, numbers(first, second))...)
	return api.System{Functor: fold.Copy(s.Functor), Next: next}, api.OK
}

// numbers returns so many numbers, from the first one on.
func numbers(first, many int) []int {
	l := make([]int, many)
	for i := range l {
		l[i] = first + i
	}
	return l
}

// Part returns the subsystem of some states of s, and for each of its states the state of s that it stands for.
func Part(s api.System, from []int) (api.System, []int, api.Errno) {
	if Check(s) != api.OK {
		return api.System{}, nil, api.ErrSystem
	}
	if !areStates(from, len(s.Next)) {
		return api.System{}, nil, api.ErrArg
	}
	kept := reached(s, from)
	// The images of other states do not matter: they do not occur in the next values of those that are kept.
	to := make([]int, len(s.Next))
	for i, x := range kept {
		to[x] = i
	}
	next := images(s, to)
	part := api.System{Functor: fold.Copy(s.Functor)}
	for _, x := range kept {
		part.Next = append(part.Next, next[x])
	}
	return part, kept, api.OK
}

// areStates reports whether all elements of the list are from 0 to n - 1.
func areStates(l []int, n int) bool {
	return !slices.ContainsFunc(l, func(x int) bool { return x < 0 || x >= n })
}

// reached returns the given states of s and all that can be reached from them, in increasing order.
func reached(s api.System, from []int) []int {
	var found []int
	isFound := make([]bool, len(s.Next))
	add := func(x int) {
		if !isFound[x] {
			isFound[x] = true
			found = append(found, x)
		}
	}
	for _, x := range from {
		add(x)
	}
search:
	for at := 0; at < len(found); at++ {
		states, _ := value.States(s.Functor, len(s.Next), s.Next[found[at]])
		for _, y := range states {
			add(y)
			if len(found) == len(s.Next) {
				break search // there is nothing left to find
			}
		}
	}
	slices.Sort(found)
	return found
}

// images returns the next values of all states of s, mapped along to, in new memory.
func images(s api.System, to []int) []api.Value {
	var l []api.Value
	for _, v := range s.Next {
		w, _ := value.Map(s.Functor, len(s.Next), v, to)
		l = append(l, w)
	}
	return l
}
