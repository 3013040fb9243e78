package unfold

import (
	"math"
	"slices"
	"testing"

	"ectype/api"
	"ectype/system"
	"ectype/value"
)

// unfolded returns the string of an unfolding.
func unfolded(s api.System, x, depth int) string {
	return must(String(s.Functor, depth, must(Unfold(s, x, depth))))
}

func TestUnfold(t *testing.T) {
	for _, c := range []struct {
		system   string
		x, depth int
		want     string
	}{
		{coins, 0, 0, "."},
		{coins, 0, 1, "(0, {. : 1})"},
		{coins, 0, 2, "(0, {(1, {. : 1}) : 1})"},
		{coins, 2, 3, "(1, {(1, {(1, {. : 1}) : 1}) : 1})"},
		{"type X\n0 = 1\n1 = 0\n", 0, 0, "."},
		{"type X\n0 = 1\n1 = 0\n", 1, 3, "."},
		{"type 3\n0 = 2\n1 = 0\n", 0, 0, "."},
		{"type 3\n0 = 2\n1 = 0\n", 0, 1, "2"},
		{"type 3\n0 = 2\n1 = 0\n", 1, 100, "0"},
		{"type X * 2\n0 = (1, 0)\n1 = (0, 1)\n", 0, 2, "((., 1), 0)"},
		{"type X + 2\n0 = l 1\n1 = r 1\n", 0, 1, "l ."},
		{"type X + 2\n0 = l 1\n1 = r 1\n", 0, 3, "l r 1"},
		{"type X ^ 2\n0 = [0, 1]\n1 = [1, 1]\n", 0, 2, "[[., .], [., .]]"},
		{"type P(X)\n0 = {0, 1}\n1 = {}\n", 0, 1, "{.}"},
		{"type P(X)\n0 = {0, 1}\n1 = {}\n", 0, 2, "{{}, {.}}"},
		{"type P(X)\n0 = {0, 1}\n1 = {}\n", 0, 3, "{{}, {{}, {.}}}"},
		{"type B(X)\n0 = {0 : 2, 1 : 3}\n1 = {}\n", 0, 1, "{. : 5}"},
		{"type B(X)\n0 = {0 : 2, 1 : 3}\n1 = {}\n", 0, 2, "{{} : 3, {. : 5} : 2}"},
		{"type 2 * D(X)\n0 = (0, {0 : 1, 1 : 2, 2 : 3})\n1 = (1, {1 : 1})\n2 = (0, {1 : 1})\n", 0, 2, "(0, {(0, {. : 1}) : 2, (1, {. : 1}) : 1})"},
		{"type 2 * D(X)\n0 = (0, {0 : 1, 1 : 2, 2 : 3})\n1 = (1, {1 : 1})\n2 = (0, {1 : 1})\n", 2, 2, "(0, {(1, {. : 1}) : 1})"},
		{"type B(P(X))\n0 = {{0} : 1, {1} : 2, {0, 1} : 4}\n1 = {}\n", 0, 1, "{{.} : 7}"},
		{"type P(X * 2)\n0 = {(1, 0), (2, 1)}\n1 = {(0, 0), (0, 1)}\n2 = {}\n", 0, 1, "{(., 0), (., 1)}"},
		{"type P(X * 2)\n0 = {(1, 0), (2, 1)}\n1 = {(0, 0), (0, 1)}\n2 = {}\n", 0, 2, "{({}, 1), ({(., 0), (., 1)}, 0)}"},
	} {
		if got := unfolded(of(c.system), c.x, c.depth); got != c.want {
			t.Errorf("%q: %d to depth %d: %s, not %s", c.system, c.x, c.depth, got, c.want)
		}
	}
}

// TestUnfoldOfSmallSystems compares unfoldings with the definition: they are trees, and mean what the states mean.
func TestUnfoldOfSmallSystems(t *testing.T) {
	for f, l := range small() {
		for _, s := range l {
			for x := range s.Next {
				checkUnfoldings(t, f, s, x, 3)
			}
		}
	}
	for _, text := range kinds {
		s := of(text)
		for x := range s.Next {
			checkUnfoldings(t, text, s, x, 3)
		}
	}
}

func checkUnfoldings(t *testing.T, name string, s api.System, x, most int) {
	t.Helper()
	for depth := range most + 1 {
		v, e := Unfold(s, x, depth)
		if e != api.OK || !isTree(s.Functor, s.Functor, depth, v) || Check(s.Functor, depth, v) != api.OK {
			t.Fatalf("%q: %v: %d to depth %d: error %d, or no tree: %v", name, s.Next, x, depth, e, v)
		}
		if got, want := ofTree(s.Functor, v, depth), ofState(s, x, depth); got != want {
			t.Fatalf("%q: %v: %d to depth %d: %s, not %s", name, s.Next, x, depth, got, want)
		}
	}
}

// TestOrderByDepth checks that elements are in the order that their unfoldings have at the depth in question.
func TestOrderByDepth(t *testing.T) {
	s := of(swing)
	for depth := range 101 {
		order := value.Compare(must(Unfold(s, 1, depth)), must(Unfold(s, 2, depth)))
		want := 0
		if depth >= 2 {
			want = []int{-1, -1, 1, 1}[(depth-2)%4]
		}
		if order != want {
			t.Fatalf("depth %d: the order is %d", depth, order)
		}
	}
	checkUnfoldings(t, "swing", s, 0, 9)
	for depth := range 101 {
		if v := must(Unfold(s, 0, depth)); !isTree(s.Functor, s.Functor, depth, v) {
			t.Errorf("depth %d: %v", depth, v)
		}
	}
}

func TestLargeUnfoldings(t *testing.T) {
	pairs := of("type X * X\n0 = (0, 0)\n")
	for depth := range api.MaxRounds + 1 {
		v, e := Unfold(pairs, 0, depth)
		if fits := depth <= 8; fits && (e != api.OK || size(v) != 1<<(depth+2)-3) || !fits && (e != api.ErrLarge || !isZero(v)) {
			t.Errorf("pairs to depth %d: %d nodes, error %d", depth, size(v), e)
		}
	}
	most := wide(api.MaxNodes)
	if v, e := Unfold(most, 0, 100); e != api.OK || size(v) != api.MaxNodes || Check(most.Functor, 100, v) != api.OK {
		t.Errorf("MaxNodes: %d nodes, error %d", size(v), e)
	}
	for _, more := range []int{1, 2, 101} {
		if v, e := Unfold(wide(api.MaxNodes+more), 0, 100); e != api.ErrLarge || !isZero(v) {
			t.Errorf("%d nodes too many: %d nodes, error %d", more, size(v), e)
		}
	}
	if v, e := Unfold(wide(api.MaxNodes+1), 1, 100); e != api.OK || size(v) != api.MaxNodes+1-16 {
		t.Errorf("one node too many, without the first set: %d nodes, error %d", size(v), e)
	}
}

// TestSharedUnfoldings unfolds states that many paths lead to, whose unfoldings are one element everywhere.
func TestSharedUnfoldings(t *testing.T) {
	s := api.System{Functor: typed("P(X)")}
	var states []api.Value
	for x := range 100 {
		states = append(states, api.Value{N: x})
	}
	s.Next = slices.Repeat([]api.Value{{Args: states}}, 100)
	v := must(Unfold(s, 42, 100))
	if size(v) != 201 || Check(s.Functor, 100, v) != api.OK {
		t.Errorf("%d nodes", size(v))
	}
	if b, e := Equal(s, of("type P(X)\n0 = {0}\n"), 17, 0, 100); !b || e != api.OK {
		t.Errorf("Equal: %v %d", b, e)
	}
}

func TestEqual(t *testing.T) {
	other := of("type 2 * D(X)\n0 = (1, {0 : 1})\n1 = (0, {0 : 5, 1 : 1})\n2 = (0, {0 : 1})\n3 = (0, {0 : 1, 1 : 2, 2 : 3})\n")
	pairs := of("type 2 * (X * X)\n0 = (0, (0, 1))\n1 = (0, (0, 2))\n2 = (1, (2, 2))\n3 = (0, (3, 4))\n4 = (0, (3, 5))\n5 = (1, (6, 5))\n6 = (1, (5, 2))\n7 = (0, (7, 7))\n")
	for _, c := range []struct {
		name        string
		s, t        api.System
		x, y, depth int
		want        bool
	}{
		{"alike", of(coins), of(coins), 1, 2, 9, true},
		{"other outputs", of(coins), of(coins), 0, 1, 1, false},
		{"other outputs, later", of(coins), of(coins), 0, 1, 100, false},
		{"at no depth", of(coins), of(coins), 0, 1, 0, true},
		{"merged", of(coins), other, 0, 2, 100, true},
		{"output", of(coins), other, 1, 1, 1, false},
		{"other probabilities, not yet", of(coins), other, 0, 1, 1, true},
		{"other probabilities", of(coins), other, 0, 1, 2, false},
		{"equal for two steps", other, other, 1, 3, 1, true},
		{"equal for no more steps", other, other, 1, 3, 2, false},
		{"far beyond MaxNodes", pairs, pairs, 0, 3, 100, true},
		{"beyond MaxNodes, but not equal", pairs, pairs, 0, 7, 100, false},
		{"pairs, not yet", pairs, pairs, 0, 7, 2, true},
		{"pairs", pairs, pairs, 0, 7, 3, false},
	} {
		for _, swapped := range []bool{false, true} {
			s, u, x, y := c.s, c.t, c.x, c.y
			if swapped {
				s, u, x, y = u, s, y, x
			}
			if got, e := Equal(s, u, x, y, c.depth); e != api.OK || got != c.want {
				t.Errorf("%s, swapped %v: %v %d", c.name, swapped, got, e)
			}
		}
	}
}

// TestEqualOfManyStates has 200 states of which no two have equal unfoldings: more than one system may have.
func TestEqualOfManyStates(t *testing.T) {
	zeros, ones := chain(100, 0), chain(100, 1)
	for depth := range 101 {
		if b, e := Equal(zeros, ones, 0, 0, depth); e != api.OK || b != (depth < 100) {
			t.Errorf("depth %d: %v %d", depth, b, e)
		}
		if b, e := Equal(ones, ones, 98, 99, depth); e != api.OK || b != (depth == 0) {
			t.Errorf("the end at depth %d: %v %d", depth, b, e)
		}
	}
	even, odd := ring(0), ring(8)
	for _, depth := range []int{1, 2, 100} {
		for x := range 100 {
			one, _ := Equal(even, even, x, x, depth)
			two, _ := Equal(even, odd, x, x, depth)
			three, _ := Equal(odd, odd, x, (x+1)%100, depth)
			if !one || two || three {
				t.Fatalf("%d at depth %d: %v %v %v", x, depth, one, two, three)
			}
		}
	}
}

// TestEqualOnSmallSystems checks Equal against the definition, and that it agrees with Compare.
func TestEqualOnSmallSystems(t *testing.T) {
	for f, l := range small() {
		for i, s := range l {
			u := l[(7*i+3)%len(l)]
			for depth := range 4 {
				for x := range s.Next {
					for y := range u.Next {
						b, e := Equal(s, u, x, y, depth)
						order := value.Compare(must(Unfold(s, x, depth)), must(Unfold(u, y, depth)))
						if e != api.OK || b != (order == 0) || b != (ofState(s, x, depth) == ofState(u, y, depth)) {
							t.Fatalf("%s: %d of %v and %d of %v to depth %d: %v %d, order %d", f, x, s.Next, y, u.Next, depth, b, e, order)
						}
					}
				}
			}
		}
	}
}

// alike returns whether some quotient of s maps two states to one: for small systems this is whether they behave alike.
func alike(s api.System) func(x, y int) bool {
	var maps [][]int
	var numbers []int
	for x := range s.Next {
		numbers = append(numbers, x)
	}
	for _, to := range lists(numbers, len(s.Next)) {
		if _, e := system.Quotient(s, to); e == api.OK {
			maps = append(maps, to)
		}
	}
	return func(x, y int) bool {
		return slices.ContainsFunc(maps, func(to []int) bool { return to[x] == to[y] })
	}
}

// TestBehavior checks that states that behave alike have equal unfoldings, and the other ones do not from some depth on.
func TestBehavior(t *testing.T) {
	for f, l := range small() {
		for _, s := range l {
			n := len(s.Next)
			behaveAlike := alike(s)
			for x := range n {
				for y := range n {
					for depth := range n + 3 {
						b, _ := Equal(s, s, x, y, depth)
						if alike := behaveAlike(x, y); alike && !b || !alike && b && depth >= n {
							t.Fatalf("%s: %v: %d and %d to depth %d: %v, but alike: %v", f, s.Next, x, y, depth, b, alike)
						}
					}
				}
			}
		}
	}
}

func TestErrorsOfUnfold(t *testing.T) {
	good, none := of(coins), of("type X\n")
	badFunctor := api.System{Functor: api.Functor{Kind: api.FConst}}
	badValue := api.System{Functor: typed("X"), Next: []api.Value{{N: 1}}}
	pairs := of("type X * X\n0 = (0, 0)\n")
	for _, c := range []struct {
		name     string
		s        api.System
		x, depth int
		want     api.Errno
	}{
		{"functor", badFunctor, 0, 0, api.ErrSystem},
		{"value", badValue, 0, 0, api.ErrSystem},
		{"value, state and depth", badValue, -1, -1, api.ErrSystem},
		{"zero value", api.System{}, 0, 1, api.ErrArg},
		{"no states", none, 0, 0, api.ErrArg},
		{"state", good, 3, 1, api.ErrArg},
		{"negative state", good, -1, 1, api.ErrArg},
		{"greatest state", good, math.MaxInt, 0, api.ErrArg},
		{"least state", good, math.MinInt, 0, api.ErrArg},
		{"negative depth", good, 0, -1, api.ErrArg},
		{"depth", good, 0, api.MaxRounds + 1, api.ErrArg},
		{"greatest depth", good, 0, math.MaxInt, api.ErrArg},
		{"least depth", good, 0, math.MinInt, api.ErrArg},
		{"state and depth", good, 3, 101, api.ErrArg},
		{"large", pairs, 0, 100, api.ErrLarge},
		{"large, and no state", pairs, 1, 100, api.ErrArg},
		{"large, and too deep", pairs, 0, 101, api.ErrArg},
		{"last depth", good, 0, api.MaxRounds, api.OK},
	} {
		v, e := Unfold(c.s, c.x, c.depth)
		if e != c.want || e != api.OK && !isZero(v) {
			t.Errorf("%s: error %d, not %d: %v", c.name, e, c.want, v)
		}
		if c.want == api.ErrLarge {
			continue
		}
		for _, f := range []func() (bool, api.Errno){
			func() (bool, api.Errno) { return Equal(c.s, c.s, c.x, c.x, c.depth) },
			func() (bool, api.Errno) { return Equal(c.s, c.s, c.x, 0, c.depth) },
			func() (bool, api.Errno) { return Equal(c.s, c.s, 0, c.x, c.depth) },
		} {
			if b, e := f(); e != c.want || b && e != api.OK {
				t.Errorf("Equal: %s: %v %d, not %d", c.name, b, e, c.want)
			}
		}
	}
}

func TestErrorsOfEqual(t *testing.T) {
	s, swapped, bad := of("type 2 * X\n0 = (0, 0)\n"), of("type X * 2\n0 = (0, 0)\n"), api.System{Functor: typed("X"), Next: []api.Value{{N: 1}}}
	for _, c := range []struct {
		name        string
		s, t        api.System
		x, y, depth int
		want        api.Errno
	}{
		{"first system", bad, s, 0, 0, 0, api.ErrSystem},
		{"second system", s, bad, 5, 5, -1, api.ErrSystem},
		{"other functor", s, swapped, 0, 0, 0, api.ErrArg},
		{"other functor and all the rest", swapped, s, 1, 1, 101, api.ErrArg},
		{"other functors of no states", of("type X"), of("type 2"), 0, 0, 0, api.ErrArg},
		{"state of the other system", s, chain(2, 0), 1, 1, 1, api.ErrArg},
		{"state of the first system", chain(2, 0), s, 1, 1, 1, api.ErrArg},
		{"states", chain(2, 0), s, 1, 0, 1, api.OK},
	} {
		if b, e := Equal(c.s, c.t, c.x, c.y, c.depth); e != c.want || b != (e == api.OK) {
			t.Errorf("%s: %v %d, not %d", c.name, b, e, c.want)
		}
	}
}
