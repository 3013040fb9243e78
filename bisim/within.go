package bisim

import (
	"ectype/api"
	"ectype/lift"
)

// largestWithin returns the largest bisimulation between s and t all of whose pairs are in r, by removing pairs that are in none.
// A pair is looked at again only if one on which it relied has been removed.
func largestWithin(s, t api.System, r [][2]int) [][2]int {
	left := lift.NewRelation(s, t, r)
	isWaiting := make([]bool, len(r))
	var waiting []int
	wait := func(i int) {
		if !isWaiting[i] {
			isWaiting[i] = true
			waiting = append(waiting, i)
		}
	}
	for i := range r {
		wait(i)
	}
	for len(waiting) > 0 {
		i := waiting[0]
		waiting = waiting[1:]
		isWaiting[i] = false
		if left.Has(i) && !left.Holds(i) {
			left.Remove(i)
			for _, j := range left.Users(i) {
				wait(j)
			}
		}
	}
	var l [][2]int
	for i, p := range r {
		if left.Has(i) {
			l = append(l, p)
		}
	}
	return l
}
