package bisim

import "ectype/api"

// marks is a set of numbers, a bit for each.
type marks []uint64

// noMarks returns an empty set, with room for the numbers below n.
func noMarks(n int) marks {
	return make(marks, (n+63)/64)
}

func (m marks) add(i int) {
	m[i/64] |= 1 << (i % 64)
}

func (m marks) addAll(others marks) {
	for i, bits := range others {
		m[i] |= bits
	}
}

func (m marks) has(i int) bool {
	return m[i/64]&(1<<(i%64)) != 0
}

// largestWithin returns the largest bisimulation between s and t all of whose pairs are in r, by removing pairs that are in none.
// A pair is looked at again only if one by which its next values were related has been removed.
func largestWithin(s, t api.System, r [][2]int) [][2]int {
	at := map[[2]int]int{}
	users := make([]marks, len(r)) // for each pair, those whose next values were related by it
	var waiting []int
	for i, p := range r {
		at[p] = i
		users[i] = noMarks(len(r))
		waiting = append(waiting, i)
	}
	removed := noMarks(len(r))
	for len(waiting) > 0 {
		again := noMarks(len(r))
		for _, i := range waiting {
			isPair := func(x, y int) bool {
				j, ok := at[[2]int{x, y}]
				if !ok || removed.has(j) {
					return false
				}
				users[j].add(i)
				return true
			}
			if !related(s.Functor, s.Next[r[i][0]], t.Next[r[i][1]], isPair) {
				removed.add(i)
				again.addAll(users[i])
			}
		}
		waiting = nil
		for i := range r {
			if again.has(i) && !removed.has(i) {
				waiting = append(waiting, i)
			}
		}
	}
	return kept(r, removed)
}

// kept returns the pairs that are not removed.
func kept(r [][2]int, removed marks) [][2]int {
	var l [][2]int
	for i, p := range r {
		if !removed.has(i) {
			l = append(l, p)
		}
	}
	return l
}
