// Package fold goes through values together with their functors: what becomes of a value depends on what becomes of its parts.
package fold

import "ectype/api"

// Of returns what node makes of v, a value of f, and of the results for its Args.
// What stands in the place of a state is left to leaf: it may be anything.
func Of[R any](f api.Functor, v api.Value, leaf func(api.Value) R, node func(f api.Functor, v api.Value, args []R) R) R {
	if f.Kind == api.FId {
		return leaf(v)
	}
	var args []R
	if len(v.Args) > 0 {
		args = make([]R, len(v.Args))
	}
	for i, a := range v.Args {
		args[i] = Of(Part(f, v, i), a, leaf, node)
	}
	return node(f, v, args)
}

// Part returns the functor of the Args at i of v, a value of f.
func Part(f api.Functor, v api.Value, i int) api.Functor {
	switch f.Kind {
	case api.FProd:
		return f.Args[i]
	case api.FSum:
		return f.Args[v.N]
	}
	return f.Args[0]
}

// IsCollection reports whether the values of f are sets, multisets or distributions.
func IsCollection(f api.Functor) bool {
	return f.Kind == api.FPow || f.Kind == api.FBag || f.Kind == api.FDist
}

// Copy returns f in new memory.
func Copy(f api.Functor) api.Functor {
	g := api.Functor{Kind: f.Kind, N: f.N}
	for _, a := range f.Args {
		g.Args = append(g.Args, Copy(a))
	}
	return g
}
