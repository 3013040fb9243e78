package system

import (
	"math"
	"slices"
	"testing"

	"ectype/api"
)

func TestSum(t *testing.T) {
	for _, c := range []struct{ name, s, t, want string }{
		{"coins", coins, "type 2 * D(X)\n0 = (1, {0 : 1, 1 : 3})\n1 = (0, {0 : 1})", coins + "3 = (1, {3 : 1, 4 : 3})\n4 = (0, {3 : 1})\n"},
		{"no states", "type X", "type X", "type X\n"},
		{"no first states", "type X", "type X\n0 = 1\n1 = 0", "type X\n0 = 1\n1 = 0\n"},
		{"no second states", "type X\n0 = 1\n1 = 0", "type X", "type X\n0 = 1\n1 = 0\n"},
		{"constants", "type 3\n0 = 2", "type 3\n0 = 1", "type 3\n0 = 2\n1 = 1\n"},
		{"choices", "type 4 + X\n0 = l 3\n1 = r 0", "type 4 + X\n0 = r 1\n1 = l 2", "type 4 + X\n0 = l 3\n1 = r 0\n2 = r 3\n3 = l 2\n"},
		{"sets", "type P(X ^ 2)\n0 = {[0, 0]}", "type P(X ^ 2)\n0 = {[0, 1], [1, 0]}\n1 = {}", "type P(X ^ 2)\n0 = {[0, 0]}\n1 = {[1, 2], [2, 1]}\n2 = {}\n"},
		{"multisets", "type 2 * B(X)\n0 = (1, {0 : 7})", "type 2 * B(X)\n0 = (1, {0 : 6})", "type 2 * B(X)\n0 = (1, {0 : 7})\n1 = (1, {1 : 6})\n"},
	} {
		sum, e := Sum(of(t, c.s), of(t, c.t))
		if text, _ := String(sum); e != api.OK || text != c.want {
			t.Errorf("%s: %q %d, not %q", c.name, text, e, c.want)
		}
	}
}

func TestLargeSums(t *testing.T) {
	loops := func(n int) api.System {
		return api.System{Functor: typed(t, "X"), Next: times(n, at(0))}
	}
	for _, c := range []struct {
		name string
		s, t api.System
		want api.Errno
	}{
		{"MaxStates states", loops(60), loops(40), api.OK},
		{"more states", loops(60), loops(41), api.ErrLarge},
		{"one state more", loops(100), loops(1), api.ErrLarge},
		{"none more", loops(100), loops(0), api.OK},
		{"twice as many", loops(100), loops(100), api.ErrLarge},
		{"MaxTotal nodes", crowd(t, 50, 195, 0), crowd(t, 50, 195, 0), api.OK},
		{"more nodes in the first one", crowd(t, 50, 195, 1), crowd(t, 50, 195, 0), api.ErrLarge},
		{"more nodes in the second one", crowd(t, 50, 195, 0), crowd(t, 50, 195, 1), api.ErrLarge},
	} {
		sum, e := Sum(c.s, c.t)
		if e != c.want || e != api.OK && !isZero(sum) {
			t.Errorf("%s: %d, not %d", c.name, e, c.want)
		}
		if e == api.OK && (Check(sum) != api.OK || len(sum.Next) != 100) {
			t.Errorf("%s: %d states, check %d", c.name, len(sum.Next), Check(sum))
		}
	}
}

// TestInclusionsInSums checks on all small systems that both inclusions are homomorphisms, and that there are no other states.
func TestInclusionsInSums(t *testing.T) {
	for f, n := range small() {
		firsts := all(t, f, n)
		for m := range n + 1 {
			seconds := all(t, f, m)
			for i, s := range firsts {
				u := seconds[i%len(seconds)]
				sum, e := Sum(s, u)
				first, second := upTo(n), upTo(n + m)[n:]
				if e != api.OK || Check(sum) != api.OK || len(sum.Next) != n+m || !isMap(s, sum, first) || !isMap(u, sum, second) {
					t.Fatalf("%v and %v: %v %d", s, u, sum, e)
				}
				one, _ := Is(s, sum, first)
				other, _ := Is(u, sum, second)
				if !one || !other {
					t.Fatalf("%v and %v: Is %v %v", s, u, one, other)
				}
			}
		}
	}
}

func TestPart(t *testing.T) {
	const line = "type 2 * X\n0 = (0, 1)\n1 = (1, 2)\n2 = (0, 3)\n3 = (1, 3)\n"
	const fork = "type P(X)\n0 = {}\n1 = {3, 4}\n2 = {0, 1}\n3 = {0}\n4 = {4}\n5 = {2, 5}\n"
	for _, c := range []struct {
		name, s string
		from    []int
		want    string
		kept    []int
	}{
		{"coins from 1", coins, []int{1}, "type 2 * D(X)\n0 = (1, {0 : 1})\n", []int{1}},
		{"coins from 0", coins, []int{0}, coins, []int{0, 1, 2}},
		{"both ends", coins, []int{2, 1}, "type 2 * D(X)\n0 = (1, {0 : 1})\n1 = (1, {1 : 1})\n", []int{1, 2}},
		{"nothing", coins, nil, "type 2 * D(X)\n", nil},
		{"no states", "type X", []int{}, "type X\n", nil},
		{"the whole line", line, []int{0}, line, []int{0, 1, 2, 3}},
		{"the end of the line", line, []int{2}, "type 2 * X\n0 = (0, 1)\n1 = (1, 1)\n", []int{2, 3}},
		{"repeated", line, []int{3, 2, 3, 2, 2}, "type 2 * X\n0 = (0, 1)\n1 = (1, 1)\n", []int{2, 3}},
		{"all", line, []int{3, 2, 1, 0}, line, []int{0, 1, 2, 3}},
		{"nothing reached", fork, []int{0}, "type P(X)\n0 = {}\n", []int{0}},
		{"branches", fork, []int{1}, "type P(X)\n0 = {}\n1 = {2, 3}\n2 = {0}\n3 = {3}\n", []int{0, 1, 3, 4}},
		{"backwards", fork, []int{2}, "type P(X)\n0 = {}\n1 = {3, 4}\n2 = {0, 1}\n3 = {0}\n4 = {4}\n", []int{0, 1, 2, 3, 4}},
		{"two branches", fork, []int{4, 3}, "type P(X)\n0 = {}\n1 = {0}\n2 = {2}\n", []int{0, 3, 4}},
		{"from the last one", fork, []int{5}, fork, []int{0, 1, 2, 3, 4, 5}},
		{"a choice", "type X + 2\n0 = l 2\n1 = l 0\n2 = r 1\n", []int{0}, "type X + 2\n0 = l 1\n1 = r 1\n", []int{0, 2}},
	} {
		part, kept, e := Part(of(t, c.s), c.from)
		if text, _ := String(part); e != api.OK || text != c.want || !slices.Equal(kept, c.kept) {
			t.Errorf("%s: %q %v %d, not %q %v", c.name, text, kept, e, c.want, c.kept)
		}
	}
}

func TestPartFromNoState(t *testing.T) {
	s := of(t, coins)
	for _, from := range [][]int{{3}, {-1}, {0, 1, 2, 3}, {3, 0}, {-1, 1}, {math.MinInt}, {math.MaxInt}, {api.MaxStates}} {
		if part, kept, e := Part(s, from); e != api.ErrArg || !isZero(part) || kept != nil {
			t.Errorf("%v: %v %v %d", from, part, kept, e)
		}
	}
	if part, kept, e := Part(api.System{}, []int{0}); e != api.ErrArg || !isZero(part) || kept != nil {
		t.Errorf("no states: %v %v %d", part, kept, e)
	}
	// A long list of states, and a long way.
	ring := api.System{Functor: typed(t, "X")}
	for x := range api.MaxStates {
		ring.Next = append(ring.Next, at((x+37)%api.MaxStates))
	}
	if part, kept, e := Part(ring, times(1<<20, 5)); e != api.OK || len(kept) != api.MaxStates || !Same(part, ring) {
		t.Errorf("ring: %v %v %d", part, kept, e)
	}
}

// closure returns the states that can be reached from some, by the definition.
func closure(s api.System, from []int) []int {
	n := len(s.Next)
	is := make([]bool, n)
	for _, x := range from {
		is[x] = true
	}
	for range n {
		for x := range n {
			for y := range n {
				// The state y occurs in a value if its meaning changes with y.
				h := upTo(n)
				h[y] = n
				if is[x] && meaning(s.Functor, s.Next[x], h) != meaning(s.Functor, s.Next[x], upTo(n)) {
					is[y] = true
				}
			}
		}
	}
	var l []int
	for x, b := range is {
		if b {
			l = append(l, x)
		}
	}
	return l
}

// TestInclusionsOfParts checks on all small systems that parts have just the states that can be reached, and that their inclusions are homomorphisms.
func TestInclusionsOfParts(t *testing.T) {
	for f, n := range small() {
		for _, s := range all(t, f, n) {
			for _, from := range append(functions(1, n), nil, upTo(n), []int{n - 1, n - 1, 0}) {
				part, kept, e := Part(s, from)
				if e != api.OK || Check(part) != api.OK || !slices.Equal(kept, closure(s, from)) || !isMap(part, s, kept) {
					t.Fatalf("%v from %v: %v %v %d", s, from, part, kept, e)
				}
				if is, e := Is(part, s, kept); e != api.OK || !is {
					t.Fatalf("%v from %v: Is %v %d", s, from, is, e)
				}
			}
		}
	}
}
