package lift

import (
	"math/bits"
	"slices"

	"ectype/api"
)

// Relation is a relation between the states of two systems, from which pairs can be removed. It remembers which pairs rely on others.
// The pairs have the numbers of their positions in the list from which the relation was made.
type Relation struct {
	s, t    api.System
	pairs   [][2]int
	numbers [][]int // for two states the number of their pair, or -1
	removed marks
	used    []marks // for each pair, some by which its next values are related
	users   []marks // for each pair, those that use it
}

// NewRelation returns a relation of different pairs.
func NewRelation(s, t api.System, pairs [][2]int) *Relation {
	r := &Relation{s: s, t: t, pairs: pairs, removed: noMarks(len(pairs)), used: make([]marks, len(pairs))}
	for range s.Next {
		row := make([]int, len(t.Next))
		for y := range row {
			row[y] = -1
		}
		r.numbers = append(r.numbers, row)
	}
	for i, p := range pairs {
		r.numbers[p[0]][p[1]] = i
		r.users = append(r.users, noMarks(len(pairs)))
	}
	return r
}

// Remove removes the pair with the number i, and Restore puts it back.
func (r *Relation) Remove(i int)  { r.removed.add(i) }
func (r *Relation) Restore(i int) { r.removed.remove(i) }

// Has reports whether the pair with the number i is not removed.
func (r *Relation) Has(i int) bool {
	return !r.removed.has(i)
}

// Holds reports whether the next values of the pair with the number i are related by the pairs that are not removed. If so, it relies on some of these from then on.
func (r *Relation) Holds(i int) bool {
	p := r.pairs[i]
	used := noMarks(len(r.pairs))
	holds := Related(r.s.Functor, r.s.Next[p[0]], r.t.Next[p[1]], func(x, y int) bool {
		j := r.numbers[x][y]
		if j < 0 || r.removed.has(j) {
			return false
		}
		used.add(j)
		return true
	})
	if holds {
		for _, j := range r.used[i].numbers() {
			r.users[j].remove(i)
		}
		for _, j := range used.numbers() {
			r.users[j].add(i)
		}
		r.used[i] = used
	}
	return holds
}

// Users returns the numbers of the pairs that rely on that with the number i and are not removed, in increasing order: all others hold without it, if they held with it.
func (r *Relation) Users(i int) []int {
	return slices.DeleteFunc(r.users[i].numbers(), r.removed.has)
}

// marks is a set of numbers, a bit for each.
type marks []uint64

// noMarks returns an empty set, with room for the numbers below n.
func noMarks(n int) marks {
	return make(marks, (n+63)/64)
}

func (m marks) add(i int) {
	m[i/64] |= 1 << (i % 64)
}

func (m marks) remove(i int) {
	m[i/64] &^= 1 << (i % 64)
}

func (m marks) has(i int) bool {
	return m[i/64]&(1<<(i%64)) != 0
}

// numbers returns the numbers in the set, in increasing order.
func (m marks) numbers() []int {
	var l []int
	for at, word := range m {
		for ; word != 0; word &= word - 1 {
			l = append(l, 64*at+bits.TrailingZeros64(word))
		}
	}
	return l
}
