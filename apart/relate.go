package apart

import (
	"cmp"
	"slices"

	"ectype/api"
	"ectype/fold"
	"ectype/lift"
	"ectype/rounds"
)

// coupling is a list of pairs of states that behave alike. It grows by what is missing.
type coupling struct {
	first, second []int // the classes of the states of two systems
	pairs         [][2]int
	isPair        map[[2]int]bool
}

// grown returns a bisimulation that contains the pair of x and y, which behave alike: pairs that its pairs need, and few more.
func grown(s, t api.System, x, y int) [][2]int {
	var classes []int
	for _, l := range rounds.Classes(s, t) {
		classes = l
	}
	n := len(s.Next)
	c := coupling{first: classes[:n], second: classes[n:], isPair: map[[2]int]bool{}}
	c.add([][2]int{{x, y}})
	for at := 0; at < len(c.pairs); at++ {
		u, v := s.Next[c.pairs[at][0]], t.Next[c.pairs[at][1]]
		if !lift.Related(s.Functor, u, v, c.has) {
			c.add(c.missing(s.Functor, u, v))
		}
	}
	return c.pairs
}

// has reports whether the pair of two states is there.
func (c *coupling) has(x, y int) bool {
	return c.isPair[[2]int{x, y}]
}

// ordered returns the pairs in increasing order.
func ordered(pairs [][2]int) [][2]int {
	return slices.SortedFunc(slices.Values(pairs), func(p, q [2]int) int {
		return cmp.Or(cmp.Compare(p[0], q[0]), cmp.Compare(p[1], q[1]))
	})
}

// add adds the pairs that are not there yet.
func (c *coupling) add(pairs [][2]int) {
	for _, p := range pairs {
		if !c.isPair[p] {
			c.isPair[p] = true
			c.pairs = append(c.pairs, p)
		}
	}
}

// missing returns pairs that are not there yet, and with which u and v, values of f, are related. They are the same value if each state is replaced by its class.
func (c *coupling) missing(f api.Functor, u, v api.Value) [][2]int {
	if f.Kind == api.FId {
		if c.has(u.N, v.N) {
			return nil
		}
		return [][2]int{{u.N, v.N}}
	}
	if fold.IsCollection(f) {
		return c.missingForElements(f, u, v)
	}
	var l [][2]int
	for i := range u.Args {
		l = append(l, c.missing(fold.Part(f, u, i), u.Args[i], v.Args[i])...)
	}
	return l
}

// missingForElements is missing for sets, multisets and distributions. It prefers couples of elements for which few pairs are missing.
func (c *coupling) missingForElements(f api.Functor, u, v api.Value) [][2]int {
	left, right := weightsOf(f.Kind, u, v), weightsOf(f.Kind, v, u)
	couples := c.couples(f.Args[0], u.Args, v.Args)
	slices.SortStableFunc(couples, func(p, q couple) int { return cmp.Compare(len(p.missing), len(q.missing)) })
	for _, p := range couples {
		if f.Kind == api.FPow && len(p.missing) == 0 {
			left[p.a], right[p.b] = 0, 0
		}
	}
	var l [][2]int
	for _, p := range couples {
		if w := min(left[p.a], right[p.b]); w > 0 {
			left[p.a] -= w
			right[p.b] -= w
			l = append(l, p.missing...)
		}
	}
	// Only in a set there are elements left: several ones are related to the same one.
	for _, p := range couples {
		if left[p.a] > 0 || right[p.b] > 0 {
			left[p.a], right[p.b] = 0, 0
			l = append(l, p.missing...)
		}
	}
	return l
}

// weightsOf returns the weights of the elements of u, for distributions with a common denominator of u and v.
func weightsOf(kind int, u, v api.Value) []int64 {
	l := make([]int64, len(u.Args))
	for i := range l {
		switch kind {
		case api.FPow:
			l[i] = 1
		case api.FBag:
			l[i] = int64(u.Weights[i])
		case api.FDist:
			l[i] = int64(u.Weights[i]) * sum(v.Weights)
		}
	}
	return l
}

// couple is a pair of elements at a and b that can be related, and what is missing for that.
type couple struct {
	a, b    int
	missing [][2]int
}

// couples returns all such pairs of two lists of elements, values of f.
func (c *coupling) couples(f api.Functor, us, vs []api.Value) []couple {
	ofClasses := func(l []api.Value, classes []int) []api.Value {
		var images []api.Value
		for _, v := range l {
			images = append(images, fold.Mapped(f, v, func(x int) int { return classes[x] }))
		}
		return images
	}
	left, right := ofClasses(us, c.first), ofClasses(vs, c.second)
	var l []couple
	for a, u := range us {
		for b, v := range vs {
			if fold.Compare(left[a], right[b]) == 0 {
				l = append(l, couple{a, b, c.missing(f, u, v)})
			}
		}
	}
	return l
}
