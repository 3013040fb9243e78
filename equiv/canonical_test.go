package equiv

import (
	"fmt"
	"slices"
	"testing"

	"ectype/api"
	"ectype/fold"
	"ectype/system"
	"ectype/unfold"
	"ectype/value"
)

func TestCanonical(t *testing.T) {
	sets := states("P(X)", "{}", "{0}", "{0, 1}", "{1}", "{0}", "{3, 4}", "{6, 0}")
	bags := states("B(X)", "{}", "{0 : 3}", "{0 : 1}", "{1 : 1, 2 : 1}", "{1 : 1, 2 : 2}", "{3 : 1, 4 : 1, 0 : 9}", "{6 : 1, 0 : 1}")
	for _, c := range []struct {
		s, want api.System
		x       int
	}{
		{of(coins), states("2 * D(X)", "(0, {1 : 1})", "(1, {1 : 1})"), 0},
		{of(coins), states("2 * D(X)", "(1, {0 : 1})"), 1},
		{of(coins), states("2 * D(X)", "(1, {0 : 1})"), 2},
		{states("X", "1", "0"), states("X", "0"), 1},
		{states("3", "2", "0", "2"), states("3", "2"), 2},
		{states("X * X", "(2, 1)", "(0, 1)", "(2, 0)"), states("X * X", "(0, 0)"), 1},
		{states("2 * (X * X)", "(0, (2, 1))", "(1, (0, 1))", "(0, (2, 0))"), states("2 * (X * X)", "(0, (1, 2))", "(0, (1, 0))", "(1, (0, 2))"), 0},
		{states("2 * (X * X)", "(0, (2, 1))", "(1, (0, 1))", "(0, (2, 0))"), states("2 * (X * X)", "(1, (1, 0))", "(0, (2, 0))", "(0, (2, 1))"), 1},
		{states("2 * X ^ 3", "(0, [3, 3, 1])", "(1, [1, 1, 1])", "(1, [3, 3, 0])", "(0, [0, 3, 2])"), states("2 * X ^ 3", "(0, [1, 1, 2])", "(0, [0, 1, 3])", "(1, [2, 2, 2])", "(1, [1, 1, 0])"), 0},
		{states("X + X", "r 2", "l 2", "l 0"), states("X + X", "l 1", "r 0"), 2},
		{sets, states("P(X)", "{}"), 0},
		{sets, states("P(X)", "{1, 2}", "{}", "{1}"), 2},
		{sets, states("P(X)", "{1, 2}", "{3}", "{1}", "{}"), 5},
		{sets, states("P(X)", "{0, 1}", "{}"), 6},
		{bags, states("B(X)", "{1 : 1, 2 : 1}", "{3 : 1}", "{3 : 3}", "{}"), 3},
		{bags, states("B(X)", "{1 : 9, 2 : 1, 3 : 1}", "{}", "{4 : 1, 5 : 1}", "{4 : 2, 5 : 1}", "{1 : 1}", "{1 : 3}"), 5},
		{bags, states("B(X)", "{0 : 1, 1 : 1}", "{}"), 6},
	} {
		if got, e := Canonical(c.s, c.x); e != api.OK || !system.Same(got, c.want) {
			t.Errorf("%d of %s: %s, error %d, not %s", c.x, written(c.s), written(got), e, written(c.want))
		}
	}
}

// swing returns a system in which the order of the unfoldings of states 1 and 2 is changed at every second depth.
// They differ in their second components, but their first ones decide later: those depend on the order of 2 and 1, two depths before.
// Other states can be reached from 0, so that there are 7 and more of them.
func swing(more int) api.System {
	next := []string{"", "r (3, 5)", "r (4, 6)", "r (2, 5)", "r (1, 5)", "l {}", "l {5}"}
	for x := range more {
		next = append(next, fmt.Sprintf("l {%d}", 6+x))
	}
	next[0] = "l {1, 2}"
	if more > 0 {
		next[0] = fmt.Sprintf("l {1, 2, %d}", 6+more)
	}
	return states("P(X) + (X * X)", next...)
}

// TestDepthOfTheOrder checks that elements are read in the order of the unfoldings to the depth that is the number of states.
func TestDepthOfTheOrder(t *testing.T) {
	d := dice{3}
	for more := range 9 {
		s := swing(more)
		c := must(Canonical(s, 0))
		want, ok := canonicalByDefinition(s, 0)
		if !ok || !system.Same(c, want) {
			t.Fatalf("%d more states: %s", more, written(c))
		}
		one := c.Next[must(value.States(c.Functor, 7+more, c.Next[0]))[min(more, 1)]]
		// The second component of state 1 has no elements, that of state 2 has one. At depths 2 and 3 state 1 is the less one, at 4 and 5 state 2.
		isOne := len(c.Next[one.Args[0].Args[1].N].Args[0].Args) == 0
		if depth := 7 + more; isOne != (depth%4 >= 2) {
			t.Errorf("depth %d: %s", depth, written(c))
		}
		for unreached := range 5 {
			u := s
			for x := range unreached {
				set := api.Value{Args: []api.Value{{N: x}, {N: 6 + more}}}
				u.Next = append(slices.Clip(u.Next), api.Value{Args: []api.Value{set}})
			}
			if len(must(Classes(u))) != 7+more+unreached || !system.Same(must(Canonical(u, 0)), c) {
				t.Errorf("%d more states and %d unreached ones", more, unreached)
			}
			v, h := d.Cover(s, 7+more+unreached)
			if x := slices.Index(h, 0); !system.Same(must(Canonical(v, x)), c) {
				t.Errorf("%d more states and %d that are alike", more, unreached)
			}
		}
	}
}

// canonicalByDefinition builds the canonical system from the unfoldings themselves, unless they are too large.
func canonicalByDefinition(s api.System, x int) (api.System, bool) {
	m, classes, _ := Minimal(s)
	p, kept, _ := system.Part(m, []int{classes[x]})
	var trees []api.Value
	for y := range p.Next {
		v, e := unfold.Unfold(p, y, len(p.Next))
		if e != api.OK {
			return api.System{}, false
		}
		trees = append(trees, v)
	}
	order := []int{slices.Index(kept, classes[x])}
	to := make([]int, len(p.Next))
	for i := 0; i < len(order); i++ {
		to[order[i]] = i
		read, _ := reading(p.Functor, p.Next[order[i]], trees)
		for _, y := range read {
			if !slices.Contains(order, y) {
				order = append(order, y)
			}
		}
	}
	return must(system.Quotient(p, to)), true
}

// reading returns the states of v as they are read, and v with the trees in the places of the states.
func reading(f api.Functor, v api.Value, trees []api.Value) ([]int, api.Value) {
	if f.Kind == api.FId {
		return []int{v.N}, api.Value{Args: []api.Value{trees[v.N]}}
	}
	type element struct {
		read []int
		tree api.Value
		at   int
	}
	var l []element
	for i, a := range v.Args {
		read, tree := reading(fold.Part(f, v, i), a, trees)
		l = append(l, element{read, tree, i})
	}
	if f.Kind >= api.FPow {
		slices.SortFunc(l, func(a, b element) int { return value.Compare(a.tree, b.tree) })
	}
	var read []int
	w := api.Value{N: v.N}
	for _, e := range l {
		read = append(read, e.read...)
		w.Args = append(w.Args, e.tree)
		if len(v.Weights) > 0 {
			w.Weights = append(w.Weights, v.Weights[e.at])
		}
	}
	return read, w
}

func TestCanonicalByDefinition(t *testing.T) {
	all, small, reordered := 0, 0, 0
	thrownSystems(60, 6, func(_ *dice, s api.System) {
		for x := range s.Next {
			all++
			want, ok := canonicalByDefinition(s, x)
			if !ok {
				continue
			}
			small++
			got := must(Canonical(s, x))
			if !system.Same(got, want) {
				t.Fatalf("%d of %s: %s, not %s", x, written(s), written(got), written(want))
			}
			if !slices.IsSorted(foundFrom(got, 0)) {
				reordered++
			}
		}
	})
	if small < all/2 || reordered == 0 {
		t.Errorf("of %d systems only %d were compared, in %d of them the order of unfoldings matters", all, small, reordered)
	}
}

// TestCanonicalOfAlikeStates checks that the canonical system depends on nothing but the behavior, and has it.
func TestCanonicalOfAlikeStates(t *testing.T) {
	thrownSystems(12, 6, func(d *dice, s api.System) {
		var l []api.System
		for x := range s.Next {
			c := must(Canonical(s, x))
			l = append(l, c)
			n := len(c.Next)
			if !must(Alike(s, c, x, 0)) || !must(unfold.Equal(s, c, x, 0, 12)) || must(Stable(c)) >= n || slices.Max(must(Classes(c))) != n-1 {
				t.Fatalf("%d of %s: %s", x, written(s), written(c))
			}
			if again := must(Canonical(c, 0)); !system.Same(c, again) {
				t.Fatalf("%s: its canonical system is %s", written(c), written(again))
			}
		}
		classes := must(Classes(s))
		for x := range s.Next {
			for y := range s.Next {
				if system.Same(l[x], l[y]) != (classes[x] == classes[y]) {
					t.Fatalf("%s: the canonical systems of %d and %d are %s and %s", written(s), x, y, written(l[x]), written(l[y]))
				}
			}
		}
		u, to := d.permuted(s)
		v, h := d.Cover(s, 15)
		for x := range s.Next {
			if c := must(Canonical(u, to[x])); !system.Same(c, l[x]) {
				t.Fatalf("%d of %s and %d of %s: %s and %s", x, written(s), to[x], written(u), written(l[x]), written(c))
			}
		}
		for x, y := range h {
			if c := must(Canonical(v, x)); !system.Same(c, l[y]) {
				t.Fatalf("%d of %s and %d of %s: %s and %s", y, written(s), x, written(v), written(l[y]), written(c))
			}
		}
	})
}

// TestLargeCanonicalSystems has systems of 100 states whose unfoldings have more nodes than any tree may have.
func TestLargeCanonicalSystems(t *testing.T) {
	d := dice{4}
	pairs := api.System{Functor: typed("P(X) * (X * X)")}
	for x := range 100 {
		set, pair := api.Value{Args: []api.Value{{N: (x + 7) % 100}}}, api.Value{Args: []api.Value{{N: d.Below(100)}, {N: d.Below(100)}}}
		if x == 50 {
			set = api.Value{}
		}
		pairs.Next = append(pairs.Next, api.Value{Args: []api.Value{set, pair}})
	}
	for _, s := range []api.System{chain(100, 1), ring(3), ordinals(1), swing(93), pairs} {
		u, to := d.permuted(s)
		for _, x := range []int{0, 99} {
			one, two := must(Canonical(s, x)), must(Canonical(u, to[x]))
			part, _, _ := system.Part(s, []int{x})
			if len(one.Next) != len(part.Next) || !system.Same(one, two) || !must(Alike(s, one, x, 0)) {
				t.Errorf("%d of %.60q: %d and %d states", x, written(s), len(one.Next), len(two.Next))
			}
		}
		if system.Same(must(Canonical(s, 0)), must(Canonical(s, 99))) {
			t.Errorf("%.60q: states 0 and 99 have the same canonical system", written(s))
		}
	}
}
