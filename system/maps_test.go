package system

import (
	"math"
	"slices"
	"testing"

	"ectype/api"
)

func TestIs(t *testing.T) {
	s, two := of(t, coins), of(t, "type 2 * D(X)\n0 = (0, {1 : 1})\n1 = (1, {1 : 1})\n")
	none := of(t, "type 2 * D(X)")
	sets, one := of(t, "type P(X)\n0 = {1, 2}\n1 = {1, 2}\n2 = {0}\n"), of(t, "type P(X)\n0 = {0}\n")
	bags, pair := of(t, "type B(X)\n0 = {1 : 1, 2 : 2}\n1 = {0 : 3}\n2 = {1 : 3}\n"), of(t, "type B(X)\n0 = {0 : 3}\n")
	for _, c := range []struct {
		name string
		s, t api.System
		h    []int
		want bool
	}{
		{"merging", s, two, []int{0, 1, 1}, true},
		{"other outputs", s, two, []int{0, 0, 1}, false},
		{"to one state", s, two, []int{1, 1, 1}, false},
		{"identity", s, s, []int{0, 1, 2}, true},
		{"not swapped", s, s, []int{0, 2, 1}, false},
		{"swapped without 0", of(t, "type 2 * D(X)\n0 = (1, {0 : 1})\n1 = (1, {1 : 1})"), s, []int{2, 1}, true},
		{"into", two, s, []int{0, 1}, false},
		{"too short", s, two, []int{0, 1}, false},
		{"too long", s, two, []int{0, 1, 1, 1}, false},
		{"nil", s, two, nil, false},
		{"no state of the second system", s, two, []int{0, 1, 2}, false},
		{"negative", s, two, []int{0, 1, -1}, false},
		{"least", s, two, []int{math.MinInt, 1, 1}, false},
		{"greatest", s, two, []int{0, math.MaxInt, 1}, false},
		{"from no states", none, two, nil, true},
		{"from no states, empty", none, none, []int{}, true},
		{"from no states, too long", none, two, []int{0}, false},
		{"to no states", s, none, []int{0, 0, 0}, false},
		{"to no states, nil", s, none, nil, false},
		{"sets", sets, one, []int{0, 0, 0}, true},
		{"multisets", bags, pair, []int{0, 0, 0}, true},
		{"other weights", of(t, "type B(X)\n0 = {1 : 1, 2 : 2}\n1 = {0 : 3}\n2 = {1 : 2}\n"), pair, []int{0, 0, 0}, false},
	} {
		if is, e := Is(c.s, c.t, c.h); e != api.OK || is != c.want {
			t.Errorf("%s: %v %d, not %v", c.name, is, e, c.want)
		}
	}
}

// TestIsOnSmallSystems checks all functions between some small systems against the definition.
func TestIsOnSmallSystems(t *testing.T) {
	for f, n := range small() {
		l := all(t, f, n)
		for i, s := range l {
			for j := i % 3; j < len(l); j += 1 + len(l)/8 {
				for _, h := range functions(n, n) {
					if is, e := Is(s, l[j], h); e != api.OK || is != isMap(s, l[j], h) {
						t.Fatalf("%v to %v along %v: %v %d", s, l[j], h, is, e)
					}
				}
			}
		}
	}
}

// TestHomomorphismsCompose checks the composition of homomorphisms to quotients, and to quotients of these.
func TestHomomorphismsCompose(t *testing.T) {
	found := 0
	for f, n := range small() {
		for _, s := range all(t, f, n) {
			for _, h := range functions(n, n) {
				u, e := Quotient(s, h)
				if e != api.OK {
					continue
				}
				for _, k := range functions(len(u.Next), len(u.Next)) {
					w, e := Quotient(u, k)
					if e != api.OK {
						continue
					}
					found++
					both := make([]int, n)
					for x := range both {
						both[x] = k[h[x]]
					}
					if is, e := Is(s, w, both); e != api.OK || !is {
						t.Fatalf("%v along %v to %v, along %v to %v: %v %d", s, h, u, k, w, is, e)
					}
				}
			}
		}
	}
	if found < 1000 {
		t.Errorf("only %d", found)
	}
}

func TestQuotient(t *testing.T) {
	for _, c := range []struct {
		name, s string
		to      []int
		want    string
	}{
		{"coins", coins, []int{0, 1, 1}, "type 2 * D(X)\n0 = (0, {1 : 1})\n1 = (1, {1 : 1})\n"},
		{"in another order", coins, []int{1, 0, 0}, "type 2 * D(X)\n0 = (1, {0 : 1})\n1 = (0, {0 : 1})\n"},
		{"renumbered", coins, []int{2, 1, 0}, "type 2 * D(X)\n0 = (1, {0 : 1})\n1 = (1, {1 : 1})\n2 = (0, {0 : 2, 1 : 1})\n"},
		{"identity", coins, []int{0, 1, 2}, coins},
		{"no states", "type X", nil, "type X\n"},
		{"one state", "type X\n0 = 1\n1 = 2\n2 = 2", []int{0, 0, 0}, "type X\n0 = 0\n"},
		{"sets", "type P(X)\n0 = {1, 2}\n1 = {1}\n2 = {1, 2}\n3 = {}", []int{0, 0, 0, 1}, "type P(X)\n0 = {0}\n1 = {}\n"},
		{"multisets", "type B(X)\n0 = {0 : 1, 1 : 2, 2 : 4}\n1 = {2 : 5, 3 : 2}\n2 = {}\n3 = {}", []int{1, 1, 0, 0}, ""},
		{"equal multisets", "type B(X)\n0 = {0 : 1, 1 : 2, 2 : 4}\n1 = {0 : 3, 2 : 1, 3 : 3}\n2 = {}\n3 = {}", []int{1, 1, 0, 0}, "type B(X)\n0 = {}\n1 = {0 : 4, 1 : 3}\n"},
		{"distributions", "type D(X) + 1\n0 = l {0 : 1, 1 : 1, 2 : 2}\n1 = l {0 : 3, 2 : 3}\n2 = r 0", []int{0, 0, 1}, "type D(X) + 1\n0 = l {0 : 1, 1 : 1}\n1 = r 0\n"},
		{"outputs differ", coins, []int{0, 0, 1}, ""},
		{"all outputs differ", coins, []int{0, 0, 0}, ""},
		{"successors differ", "type 2 * X\n0 = (1, 2)\n1 = (1, 3)\n2 = (0, 2)\n3 = (1, 3)\n", []int{0, 0, 1, 0}, ""},
		{"probabilities differ", "type D(X) + 1\n0 = l {0 : 1, 1 : 1, 2 : 2}\n1 = l {0 : 3, 2 : 4}\n2 = r 0", []int{0, 0, 1}, ""},
	} {
		q, e := Quotient(of(t, c.s), c.to)
		text, _ := String(q)
		if c.want == "" && (e != api.ErrNone || !isZero(q)) {
			t.Errorf("%s: %v %d, not ErrNone", c.name, q, e)
		}
		if c.want != "" && (e != api.OK || text != c.want) {
			t.Errorf("%s: %q %d, not %q", c.name, text, e, c.want)
		}
	}
}

func TestQuotientAlongNoNumbering(t *testing.T) {
	s := of(t, coins)
	for _, to := range [][]int{nil, {}, {0}, {0, 1}, {0, 1, 1, 1}, {0, 2, 2}, {1, 1, 1}, {1, 2, 2}, {0, 1, 3}, {0, 0, 2}, {-1, 0, 1}, {0, 1, -1}, {0, 1, 99}, {0, 1, 100}, {0, 1, math.MaxInt}, {math.MinInt, 0, 0}} {
		if q, e := Quotient(s, to); e != api.ErrArg || !isZero(q) {
			t.Errorf("%v: %v %d", to, q, e)
		}
	}
	if q, e := Quotient(of(t, "type X"), []int{0}); e != api.ErrArg || !isZero(q) {
		t.Errorf("no states: %v %d", q, e)
	}
	full := api.System{Functor: typed(t, "P(X)"), Next: times(100, list(states(100)...))}
	if q, e := Quotient(full, upTo(100)); e != api.OK || !Same(q, full) {
		t.Errorf("MaxStates states: %v %d", q, e)
	}
}

// TestQuotientOnSmallSystems checks all functions from small systems: whether there is a quotient, and that it is one.
func TestQuotientOnSmallSystems(t *testing.T) {
	for f, n := range small() {
		for _, s := range all(t, f, n) {
			for _, to := range functions(n, n+1) {
				q, e := Quotient(s, to)
				want := api.OK
				if m := slices.Max(to) + 1; slices.ContainsFunc(upTo(m), func(y int) bool { return !slices.Contains(to, y) }) {
					want = api.ErrArg
				} else if differ(s, to) {
					want = api.ErrNone
				}
				if e != want || e != api.OK && !isZero(q) {
					t.Fatalf("%v along %v: %v %d, not %d", s, to, q, e, want)
				}
				if e == api.OK && (Check(q) != api.OK || len(q.Next) != slices.Max(to)+1 || !isMap(s, q, to)) {
					t.Fatalf("%v along %v: %v", s, to, q)
				}
				if is, g := Is(s, q, to); e == api.OK && (g != api.OK || !is) {
					t.Fatalf("%v along %v: Is %v %d", s, to, is, g)
				}
			}
		}
	}
}

// differ reports whether two states with the same image have next values with different images.
func differ(s api.System, to []int) bool {
	for x, u := range s.Next {
		for y, v := range s.Next {
			if to[x] == to[y] && meaning(s.Functor, u, to) != meaning(s.Functor, v, to) {
				return true
			}
		}
	}
	return false
}
