package equiv

import (
	"iter"
	"slices"

	"ectype/api"
	"ectype/value"
)

// refined returns the last round up to a given one in which there are more classes than before, and the classes of the states in it.
func refined(s api.System, most int) (round int, classes []int) {
	for k, ranks := range rounds(s) {
		finer := numbered(ranks)
		if k > most || slices.Equal(finer, classes) {
			break
		}
		round, classes = k, finer
	}
	return round, classes
}

// stayTogether reports whether x of s and y of t are in the same class in all rounds of both systems together.
// All states of s have to be reached from x, and all of t from y.
func stayTogether(s, t api.System, x, y int) bool {
	n := len(s.Next)
	var classes []int
	together := true
	for _, ranks := range rounds(s, t) {
		finer := numbered(ranks)
		// What is reached from states that behave alike behaves alike: each state of t is in the class of some state of s.
		// Thus the classes are not more than a system has states, though both systems together may have more of these.
		together = finer[x] == finer[n+y] && slices.Max(finer[n:]) <= slices.Max(finer[:n])
		if !together || slices.Equal(finer, classes) {
			break
		}
		classes = finer
	}
	return together
}

// rounds yields for each round k, without end, the ranks of the states of all systems: the order of their unfoldings to the depth k, in which equal ones have the same rank.
// The classes of a round are thus the states of the same rank.
// Unfoldings may have exponentially many nodes. They are compared by the next values alone, where each state is replaced by its rank in the previous round.
func rounds(systems ...api.System) iter.Seq2[int, []int] {
	return func(yield func(int, []int) bool) {
		var ranks []int
		for _, s := range systems {
			ranks = append(ranks, make([]int, len(s.Next))...)
		}
		for k := 0; yield(k, ranks); k++ {
			var next []api.Value
			for _, s := range systems {
				next = append(next, images(s, ranks[len(next):])...)
			}
			ranks = ranked(next)
		}
	}
}

// images returns the next values of s, mapped along the first elements of to.
func images(s api.System, to []int) []api.Value {
	n := len(s.Next)
	l := make([]api.Value, n)
	for x, v := range s.Next {
		l[x], _ = value.Map(s.Functor, n, v, to[:n])
	}
	return l
}

// ranked returns for each value how many different ones of the list are less.
func ranked(l []api.Value) []int {
	different := slices.Clone(l)
	slices.SortFunc(different, value.Compare)
	different = slices.CompactFunc(different, func(u, v api.Value) bool { return value.Compare(u, v) == 0 })
	ranks := make([]int, len(l))
	for i, v := range l {
		ranks[i], _ = slices.BinarySearchFunc(different, v, value.Compare)
	}
	return ranks
}

// numbered returns a number for each key: different keys are numbered in the order of their first occurrence.
func numbered[K comparable](keys []K) []int {
	number := map[K]int{}
	l := make([]int, len(keys))
	for i, key := range keys {
		if _, ok := number[key]; !ok {
			number[key] = len(number)
		}
		l[i] = number[key]
	}
	return l
}
