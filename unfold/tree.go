package unfold

import (
	"ectype/api"
	"ectype/fold"
	"ectype/functor"
	"ectype/value"
)

// Check returns OK if v is a valid tree for f and depth.
func Check(f api.Functor, depth int, v api.Value) api.Errno {
	if functor.Check(f) != api.OK {
		return api.ErrFunctor
	}
	if !isDepth(depth) {
		return api.ErrArg
	}
	if !fits(f, depth, v) {
		return api.ErrValue
	}
	return api.OK
}

// fits reports whether v is an unfolding of f with at most MaxNodes nodes.
// It visits elements before it compares them, so that no time is spent on comparing large trees.
func fits(f api.Functor, depth int, v api.Value) bool {
	nodes := api.MaxNodes
	var visit func(part api.Functor, depth int, v api.Value) bool
	visit = func(part api.Functor, depth int, v api.Value) bool {
		// An unfolding of depth 0 is like the only value of the functor 1, and one in the place of a state like the only element of a list.
		if depth == 0 {
			part = api.Functor{Kind: api.FConst, N: 1}
		} else if part.Kind == api.FId {
			part = api.Functor{Kind: api.FExp, N: 1, Args: []api.Functor{f}}
			depth--
		}
		if nodes == 0 || !hasItsFields(part, v) {
			return false
		}
		nodes--
		for i, a := range v.Args {
			if !visit(fold.Part(part, v, i), depth, a) {
				return false
			}
		}
		return !fold.IsCollection(part) || isIncreasing(v.Args)
	}
	return visit(f, depth, v)
}

// hasItsFields reports whether the first node of v has the fields of a value of f, whatever its elements are:
// with the numbers of the elements in place of them, it is a value over so many states.
// No value has more than MaxArgs elements: as there may be very many of them, they are not replaced.
func hasItsFields(f api.Functor, v api.Value) bool {
	n := len(v.Args)
	if n > api.MaxArgs {
		return false
	}
	g := api.Functor{Kind: f.Kind, N: f.N}
	for range f.Args {
		g.Args = append(g.Args, api.Functor{Kind: api.FId})
	}
	w := api.Value{N: v.N, Weights: v.Weights}
	for i := range n {
		w.Args = append(w.Args, api.Value{N: i})
	}
	return value.Check(g, n, w) == api.OK
}

// isIncreasing reports whether the trees are in strictly increasing order.
func isIncreasing(l []api.Value) bool {
	for i := 1; i < len(l); i++ {
		if value.Compare(l[i-1], l[i]) >= 0 {
			return false
		}
	}
	return true
}

// Cut returns the unfolding of depth less that v begins with.
func Cut(f api.Functor, depth int, v api.Value, less int) (api.Value, api.Errno) {
	if e := Check(f, depth, v); e != api.OK {
		return api.Value{}, e
	}
	if less < 0 || less > depth {
		return api.Value{}, api.ErrArg
	}
	return cut(f, v, less), api.OK
}

func cut(f api.Functor, v api.Value, depth int) api.Value {
	if depth == 0 {
		return api.Value{}
	}
	return fold.Replaced(f, v, func(u api.Value) api.Value { return inPlace(cut(f, u.Args[0], depth-1)) })
}

// inPlace returns what stands in the place of a state if its unfolding is v.
func inPlace(v api.Value) api.Value {
	return api.Value{Args: []api.Value{v}}
}
