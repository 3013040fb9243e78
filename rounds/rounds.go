// Package rounds tells the states of systems apart, round by round: in round k, those whose unfoldings to the depth k differ.
package rounds

import (
	"iter"
	"slices"

	"ectype/api"
	"ectype/fold"
)

// Classes yields for each round, up to the stable one, the classes of the states of all systems, numbered in the order of their first states.
// The states of a system come after those of the systems before it. All systems have the same functor.
func Classes(systems ...api.System) iter.Seq2[int, []int] {
	return func(yield func(int, []int) bool) {
		var classes []int
		for k, ranks := range Ranks(systems...) {
			finer := Numbered(ranks)
			if k > 0 && slices.Equal(finer, classes) || !yield(k, finer) {
				return
			}
			classes = finer
		}
	}
}

// Ranks yields for each round, without end, the ranks of the states of all systems: the order of their unfoldings, in which equal ones have the same rank.
// Unfoldings may have exponentially many nodes. They are compared by the next values alone, where each state is replaced by its rank in the previous round.
func Ranks(systems ...api.System) iter.Seq2[int, []int] {
	return func(yield func(int, []int) bool) {
		var ranks []int
		for _, s := range systems {
			ranks = append(ranks, make([]int, len(s.Next))...)
		}
		for k := 0; yield(k, ranks); k++ {
			var next []api.Value
			for _, s := range systems {
				next = append(next, images(s, ranks[len(next):])...)
			}
			ranks = ranked(next)
		}
	}
}

// images returns the next values of s, in which each state x is replaced by to[x].
func images(s api.System, to []int) []api.Value {
	l := make([]api.Value, len(s.Next))
	for x, v := range s.Next {
		l[x] = fold.Mapped(s.Functor, v, func(x int) int { return to[x] })
	}
	return l
}

// ranked returns for each value how many different ones of the list are less.
func ranked(l []api.Value) []int {
	different := slices.Clone(l)
	slices.SortFunc(different, fold.Compare)
	different = slices.CompactFunc(different, func(u, v api.Value) bool { return fold.Compare(u, v) == 0 })
	ranks := make([]int, len(l))
	for i, v := range l {
		ranks[i], _ = slices.BinarySearchFunc(different, v, fold.Compare)
	}
	return ranks
}

// Numbered returns a number for each key: different keys are numbered in the order of their first occurrence.
func Numbered[K comparable](keys []K) []int {
	number := map[K]int{}
	l := make([]int, len(keys))
	for i, key := range keys {
		if _, ok := number[key]; !ok {
			number[key] = len(number)
		}
		l[i] = number[key]
	}
	return l
}
