// Package recur has what terms and equation terms have in common: recursions, and variables that refer to these or to something outside.
package recur

import (
	"slices"

	"ectype/api"
	"ectype/fold"
)

// IsVariable reports whether t is a variable, not a recursion.
func IsVariable(t api.Term) bool {
	return len(t.Body) == 0
}

// IsTerm reports whether t is a term of f, a valid functor, that is neither too large nor too deep, and whose variables all refer to recursions in it, or to some of the so many things outside.
// It gives up at the first excess, so that its time does not depend on the size of what it is given.
func IsTerm(f api.Functor, t api.Term, outside int) bool {
	nodes := api.MaxTerm
	var isTerm func(t api.Term, around int) bool
	var isPart func(g api.Functor, p api.Part, around int) bool
	isTerm = func(t api.Term, around int) bool {
		if nodes == 0 {
			return false
		}
		nodes--
		if IsVariable(t) {
			return 0 <= t.Var && t.Var < around+outside
		}
		return t.Var == 0 && len(t.Body) == 1 && around < api.MaxDepth && isPart(f, t.Body[0], around+1)
	}
	isPart = func(g api.Functor, p api.Part, around int) bool {
		if nodes == 0 || !hasItsFields(g, p) {
			return false
		}
		nodes--
		for i, a := range p.Args {
			if !isPart(fold.Part(g, api.Value{N: p.N}, i), a, around) {
				return false
			}
		}
		return !slices.ContainsFunc(p.Terms, func(t api.Term) bool { return !isTerm(t, around) })
	}
	return isTerm(t, 0)
}

// hasItsFields reports whether the first node of p has the fields of a part of f: those of a value, but a term for a state.
func hasItsFields(f api.Functor, p api.Part) bool {
	terms := 0
	if f.Kind == api.FId {
		terms = 1
	}
	return len(p.Terms) == terms && fold.HasFields(f, 1, p.N, len(p.Args), p.Weights)
}

// PartOf returns v, a value of f, as a part in new memory, in which the term for each state is what the function returns.
func PartOf(f api.Functor, v api.Value, term func(x int) api.Term) api.Part {
	leaf := func(u api.Value) api.Part { return api.Part{Terms: []api.Term{term(u.N)}} }
	return fold.Of(f, v, leaf, func(_ api.Functor, v api.Value, args []api.Part) api.Part {
		return api.Part{N: v.N, Args: args, Weights: slices.Clone(v.Weights)}
	})
}

// valueOf returns p as a value, in which the state for each term is what the function returns. Its weights are those of p, in the same memory.
func valueOf(p api.Part, state func(t api.Term) int) api.Value {
	if len(p.Terms) > 0 {
		return api.Value{N: state(p.Terms[0])}
	}
	v := api.Value{N: p.N, Weights: p.Weights}
	for _, a := range p.Args {
		v.Args = append(v.Args, valueOf(a, state))
	}
	return v
}
