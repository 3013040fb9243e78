package fold

import "ectype/api"

// HasFields reports whether a node of a value of f over so many states may have the number n, so many Args, and these weights.
// What the Args are is left open: elements may be in any order and of any number, and weights may have a common divisor.
func HasFields(f api.Functor, states, n, args int, weights []int) bool {
	numbers, itsArgs := 1, args
	switch f.Kind {
	case api.FId:
		numbers, itsArgs = states, 0
	case api.FConst:
		numbers, itsArgs = f.N, 0
	case api.FProd:
		itsArgs = 2
	case api.FSum:
		numbers, itsArgs = 2, 1
	case api.FExp:
		itsArgs = f.N
	case api.FDist:
		itsArgs = max(args, 1)
	}
	return 0 <= n && n < numbers && args == itsArgs && hasWeights(f, args, weights)
}

// hasWeights reports whether there is a positive weight for each element, with a sum of at most MaxWeight, if f has weights, and none otherwise.
func hasWeights(f api.Functor, elements int, weights []int) bool {
	if f.Kind != api.FBag && f.Kind != api.FDist {
		return len(weights) == 0
	}
	left := api.MaxWeight
	for _, w := range weights {
		if w < 1 || w > left {
			return false
		}
		left -= w
	}
	return len(weights) == elements
}
