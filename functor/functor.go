// Package functor is layer 1: functors, their validity, their strings and the parsing of these.
package functor

import (
	"slices"

	"ectype/api"
)

// fields says which fields a kind of functor has: the number of Args, the range of N, and the token of its string.
type fields struct {
	args        int
	least, most int
	token       string
}

// kinds has the fields of each kind, at the kind's number.
var kinds = [api.FDist + 1]fields{
	api.FId:    {token: "X"},
	api.FConst: {least: 1, most: api.MaxConst},
	api.FProd:  {args: 2, token: "*"},
	api.FSum:   {args: 2, token: "+"},
	api.FExp:   {args: 1, least: 1, most: api.MaxInputs, token: "^"},
	api.FPow:   {args: 1, token: "P"},
	api.FBag:   {args: 1, token: "B"},
	api.FDist:  {args: 1, token: "D"},
}

// Check returns OK if f is a valid functor, and ErrFunctor otherwise.
func Check(f api.Functor) api.Errno {
	nodes := api.MaxKinds
	if !fits(f, api.MaxHeight, &nodes) {
		return api.ErrFunctor
	}
	return api.OK
}

// fits reports whether f is valid within a depth and a number of nodes, from which it takes its own.
// It gives up at the first excess, so that its time does not depend on the size of f.
func fits(f api.Functor, depth int, nodes *int) bool {
	if depth == 0 || *nodes == 0 || !hasItsFields(f) {
		return false
	}
	*nodes--
	for _, a := range f.Args {
		if !fits(a, depth-1, nodes) {
			return false
		}
	}
	return true
}

// hasItsFields reports whether the first node of f has the fields of its kind and no others.
func hasItsFields(f api.Functor) bool {
	if f.Kind < 0 || f.Kind >= len(kinds) {
		return false
	}
	k := kinds[f.Kind]
	return len(f.Args) == k.args && k.least <= f.N && f.N <= k.most
}

// Size returns the number of nodes and the depth of any tree.
func Size(f api.Functor) (nodes, depth int) {
	for _, a := range f.Args {
		n, d := Size(a)
		nodes += n
		depth = max(depth, d)
	}
	return nodes + 1, depth + 1
}

// Same reports whether two trees are equal.
func Same(f, g api.Functor) bool {
	return f.Kind == g.Kind && f.N == g.N && slices.EqualFunc(f.Args, g.Args, Same)
}

// Polynomial reports whether f has no sets, multisets and distributions.
func Polynomial(f api.Functor) (bool, api.Errno) {
	return lacks(f, api.FPow, api.FBag, api.FDist)
}

// Plain reports whether f is without weights: it has no multisets and distributions.
func Plain(f api.Functor) (bool, api.Errno) {
	return lacks(f, api.FBag, api.FDist)
}

// lacks reports whether the valid functor f has no node of the given kinds.
func lacks(f api.Functor, some ...int) (bool, api.Errno) {
	if Check(f) != api.OK {
		return false, api.ErrFunctor
	}
	return !has(f, some), api.OK
}

// has reports whether f has a node of one of the given kinds.
func has(f api.Functor, some []int) bool {
	return slices.Contains(some, f.Kind) || slices.ContainsFunc(f.Args, func(a api.Functor) bool {
		return has(a, some)
	})
}
