package unfold

import (
	"slices"
	"strconv"
	"strings"

	"ectype/api"
	"ectype/value"
)

// fold returns what node makes of v, a value of f, and of the results for its Args.
// What stands in the place of a state is left to leaf: a state, or an unfolding.
func fold[R any](f api.Functor, v api.Value, leaf func(api.Value) R, node func(f api.Functor, v api.Value, args []R) R) R {
	if f.Kind == api.FId {
		return leaf(v)
	}
	args := slices.Grow([]R(nil), len(v.Args))
	for i, a := range v.Args {
		args = append(args, fold(partOf(f, v, i), a, leaf, node))
	}
	return node(f, v, args)
}

// partOf returns the functor of the Args at i of v, a value of f.
func partOf(f api.Functor, v api.Value, i int) api.Functor {
	if f.Kind == api.FSum {
		return f.Args[v.N]
	}
	// All elements of a list or a collection have the same functor.
	return f.Args[min(i, len(f.Args)-1)]
}

// isCollection reports whether the values of f are sets, multisets or distributions.
func isCollection(f api.Functor) bool {
	return f.Kind == api.FPow || f.Kind == api.FBag || f.Kind == api.FDist
}

// replaced returns v in new memory, with what leaf returns in the place of each state, and collections in order.
func replaced(f api.Functor, v api.Value, leaf func(api.Value) api.Value) api.Value {
	return fold(f, v, leaf, func(f api.Functor, v api.Value, args []api.Value) api.Value {
		if isCollection(f) {
			return collected(f.Kind, args, v.Weights)
		}
		return api.Value{N: v.N, Args: args}
	})
}

// collected returns the set, multiset or distribution of elements that may be equal and in any order:
// the normal form of their numbers, in which the elements are put back.
func collected(kind int, elements []api.Value, weights []int) api.Value {
	different := slices.Clone(elements)
	slices.SortFunc(different, value.Compare)
	different = slices.CompactFunc(different, func(u, v api.Value) bool { return value.Compare(u, v) == 0 })
	numbers := make([]api.Value, len(elements))
	for i, a := range elements {
		numbers[i].N, _ = slices.BinarySearchFunc(different, a, value.Compare)
	}
	f := api.Functor{Kind: kind, Args: []api.Functor{{Kind: api.FId}}}
	v, _ := value.Normal(f, len(different), api.Value{Args: numbers, Weights: weights})
	v.Args = different
	return v
}

// written returns the string of v, with what leaf returns in the place of each state.
func written(f api.Functor, v api.Value, leaf func(api.Value) string) string {
	return fold(f, v, leaf, func(f api.Functor, v api.Value, args []string) string {
		for i, w := range v.Weights {
			args[i] += " : " + strconv.Itoa(w)
		}
		list := strings.Join(args, ", ")
		switch f.Kind {
		case api.FConst:
			return strconv.Itoa(v.N)
		case api.FProd:
			return "(" + list + ")"
		case api.FSum:
			return [2]string{"l ", "r "}[v.N] + list
		case api.FExp:
			return "[" + list + "]"
		}
		return "{" + list + "}"
	})
}
