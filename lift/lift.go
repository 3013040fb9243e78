// Package lift lifts relations between states to relations between values: for single values, and for the next values of the pairs of a relation.
package lift

import "ectype/api"

// Related reports whether u and v, values of f, are related by the relation of the pairs that isPair accepts.
// It asks for no more pairs than it needs: if it is true, the values are related by those that were accepted alone.
func Related(f api.Functor, u, v api.Value, isPair func(x, y int) bool) bool {
	switch f.Kind {
	case api.FId:
		return isPair(u.N, v.N)
	case api.FConst:
		return u.N == v.N
	case api.FProd:
		return Related(f.Args[0], u.Args[0], v.Args[0], isPair) && Related(f.Args[1], u.Args[1], v.Args[1], isPair)
	case api.FSum:
		return u.N == v.N && Related(f.Args[u.N], u.Args[0], v.Args[0], isPair)
	}
	areRelated := remembered(len(u.Args), len(v.Args), func(a, b int) bool {
		return Related(f.Args[0], u.Args[a], v.Args[b], isPair)
	})
	switch f.Kind {
	case api.FExp:
		return areSame(f.N, areRelated)
	case api.FPow:
		return cover(len(u.Args), len(v.Args), areRelated)
	case api.FBag:
		return canMove(times(u.Weights, 1), times(v.Weights, 1), areRelated)
	}
	// Probabilities with a common denominator are natural numbers, and if there are rational numbers for these, there are natural ones.
	return canMove(times(u.Weights, sum(v.Weights)), times(v.Weights, sum(u.Weights)), areRelated)
}

// remembered returns a function with the answers of decide about numbers below n and m, which decides on each pair at most once.
func remembered(n, m int, decide func(a, b int) bool) func(a, b int) bool {
	isKnown, answers := make([]bool, n*m), make([]bool, n*m)
	return func(a, b int) bool {
		i := a*m + b
		if !isKnown[i] {
			answers[i] = decide(a, b)
			isKnown[i] = true
		}
		return answers[i]
	}
}

// areSame reports whether each of n elements is related to the one with the same number.
func areSame(n int, areRelated func(a, b int) bool) bool {
	for a := range n {
		if !areRelated(a, a) {
			return false
		}
	}
	return true
}

// cover reports whether each of n elements is related to one of m others, and each of these to one of the n.
func cover(n, m int, areRelated func(a, b int) bool) bool {
	isCovered := make([]bool, m)
	for a := range n {
		b := 0
		for b < m && !areRelated(a, b) {
			b++
		}
		if b == m {
			return false
		}
		isCovered[b] = true
	}
	for b := range m {
		for a := 0; !isCovered[b]; a++ {
			if a == n {
				return false
			}
			isCovered[b] = areRelated(a, b)
		}
	}
	return true
}

// times returns the weights, multiplied by a factor: up to the square of MaxWeight, which is more than 32 bits.
func times(weights []int, factor int64) []int64 {
	l := make([]int64, len(weights))
	for i, w := range weights {
		l[i] = int64(w) * factor
	}
	return l
}

// sum returns the sum of some weights.
func sum[N int | int64](weights []N) int64 {
	var all int64
	for _, w := range weights {
		all += int64(w)
	}
	return all
}
