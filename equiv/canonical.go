package equiv

import (
	"slices"

	"ectype/api"
	"ectype/fold"
	"ectype/rounds"
)

// lastRanks returns the ranks of the states in the round whose number is that of the classes.
func lastRanks(s api.System) []int {
	var last []int
	for k, ranks := range rounds.Ranks(s) {
		// Up to the stable round there are more than k classes, and after it there are no more of them.
		// Ranks may go on changing, but not if they are once the same as in the previous round.
		classes := slices.Max(ranks) + 1
		isLast := k == classes || slices.Equal(ranks, last)
		last = ranks
		if isLast {
			break
		}
	}
	return last
}

// foundFrom returns for each state its number in the order in which the states are found, from x on, in the values of those that are found.
func foundFrom(s api.System, x int) []int {
	found := []int{x}
	for at := 0; at < len(found); at++ {
		eachState(s.Functor, s.Next[found[at]], func(y int) {
			if !slices.Contains(found, y) {
				found = append(found, y)
			}
		})
	}
	number := make([]int, len(s.Next))
	for i, y := range found {
		number[y] = i
	}
	return number
}

// eachState calls do with each state of v, a value of f, from left to right.
func eachState(f api.Functor, v api.Value, do func(x int)) {
	if f.Kind == api.FId {
		do(v.N)
	}
	for i, a := range v.Args {
		eachState(fold.Part(f, v, i), a, do)
	}
}
