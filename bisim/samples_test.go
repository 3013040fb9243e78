package bisim

import (
	"fmt"
	"slices"

	"ectype/api"
	"ectype/fold"
	"ectype/sample"
)

// What package sample has, by shorter names.
const coins = sample.Coins

var typed, of, written, states = sample.Functor, sample.System, sample.Text, sample.States

func must[R any](r R, e api.Errno) R { return sample.Must(r, e) }

// pairs returns a relation from the components of its pairs, one after the other.
func pairs(l ...int) [][2]int {
	var r [][2]int
	for i := 0; i < len(l); i += 2 {
		r = append(r, [2]int{l[i], l[i+1]})
	}
	return r
}

// chain returns a system of 2 * X whose states are followed by each other; only the last one, which is followed by itself, has the output last.
func chain(n, last int) api.System {
	var next []string
	for x := range n - 1 {
		next = append(next, fmt.Sprintf("(0, %d)", x+1))
	}
	return states("2 * X", append(next, fmt.Sprintf("(%d, %d)", last, n-1))...)
}

// dice throw values and systems.
type dice struct{ sample.Dice }

// functors are the functors of which values and systems are thrown: each kind, and combinations of them.
var functors = []string{
	"X", "2", "2 * X", "X * 2", "X + 2", "2 + X", "X + X", "X * X", "X ^ 3", "2 * X ^ 2", "P(X)", "2 * P(X)", "P(P(X))", "P(X * 2)", "P(1 + X)", "P(X) ^ 2",
	"B(X)", "B(1 + X)", "2 * B(X)", "B(X) + X", "D(X)", "2 * D(X)", "1 + D(X)", "D(X + 2)", "D(P(X))", "P(D(X))", "B(P(X))", "P(B(X))", "D(B(X))", "(1 + P(X)) ^ 2",
}

// relation returns some pairs of n and m states: each one with a probability of most quarters.
func (d *dice) relation(n, m, most int) [][2]int {
	var r [][2]int
	for x := range n {
		for y := range m {
			if d.Below(4) < most {
				r = append(r, [2]int{x, y})
			}
		}
	}
	return r
}

// relations returns all relations between n and m states.
func relations(n, m int) [][][2]int {
	var all [][][2]int
	for bits := range 1 << (n * m) {
		var r [][2]int
		for i := range n * m {
			if bits>>i&1 == 1 {
				r = append(r, [2]int{i / m, i % m})
			}
		}
		all = append(all, r)
	}
	return all
}

// relatedByDefinition is the table of the chapter, for small values.
func relatedByDefinition(f api.Functor, u, v api.Value, r [][2]int) bool {
	if f.Kind == api.FId {
		return slices.Contains(r, [2]int{u.N, v.N})
	}
	if f.Kind < api.FPow {
		is := u.N == v.N
		for i := range u.Args {
			is = is && relatedByDefinition(fold.Part(f, u, i), u.Args[i], v.Args[i], r)
		}
		return is
	}
	var to []int // for each element of u the elements of v to which it is related, one bit for each
	var all int
	for i, a := range u.Args {
		to = append(to, 0)
		for j, b := range v.Args {
			if relatedByDefinition(f.Args[0], a, b, r) {
				to[i] |= 1 << j
			}
		}
		all |= to[i]
	}
	switch f.Kind {
	case api.FPow:
		return !slices.Contains(to, 0) && all == 1<<len(v.Args)-1
	case api.FBag:
		return canTake(slices.Clone(u.Weights), slices.Clone(v.Weights), to)
	}
	return noneTooProbable(u.Weights, v.Weights, to)
}

// canTake reports whether all can be taken from both lists by taking 1 from related elements, again and again, in any way.
func canTake(left, right, to []int) bool {
	i := slices.IndexFunc(left, func(w int) bool { return w > 0 })
	if i < 0 {
		return !slices.ContainsFunc(right, func(w int) bool { return w > 0 })
	}
	left[i]--
	defer func() { left[i]++ }()
	for j := range right {
		if right[j] == 0 || to[i]>>j&1 == 0 {
			continue
		}
		right[j]--
		is := canTake(left, right, to)
		right[j]++
		if is {
			return true
		}
	}
	return false
}

// noneTooProbable reports whether each set of elements on the left is at most as probable as all that its elements are related to.
// By a theorem of Strassen, this is so if and only if two distributions are related.
func noneTooProbable(left, right, to []int) bool {
	total := func(weights []int, some int) int {
		all := 0
		for i, w := range weights {
			all += w * (some >> i & 1)
		}
		return all
	}
	allLeft, allRight := total(left, -1), total(right, -1)
	for some := range 1 << len(left) {
		reached := 0
		for i := range left {
			if some>>i&1 == 1 {
				reached |= to[i]
			}
		}
		if total(left, some)*allRight > total(right, reached)*allLeft {
			return false
		}
	}
	return true
}

// isBisimulation is the definition, for small systems.
func isBisimulation(s, t api.System, r [][2]int) bool {
	return !slices.ContainsFunc(r, func(p [2]int) bool {
		return !relatedByDefinition(s.Functor, s.Next[p[0]], t.Next[p[1]], r)
	})
}
