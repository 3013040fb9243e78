package apart

import (
	"math"
	"slices"
	"testing"

	"ectype/api"
	"ectype/equiv"
	"ectype/fold"
	"ectype/functor"
	"ectype/logic"
	"ectype/sample"
)

func TestDecide(t *testing.T) {
	for _, c := range []struct {
		system string
		x, y   int
		alike  bool
	}{
		// the example of the chapter
		{coins, 1, 2, true},
		{coins, 2, 2, true},
		{coins, 0, 0, true},
		{coins, 0, 1, false},
		{coins, 1, 0, false},
		{coins, 2, 0, false},
		// each kind
		{"type X\n0 = 1\n1 = 0\n", 0, 1, true},
		{"type 3\n0 = 2\n1 = 2\n2 = 0\n", 0, 1, true},
		{"type 3\n0 = 2\n1 = 2\n2 = 0\n", 0, 2, false},
		{"type X * 2\n0 = (1, 0)\n1 = (2, 0)\n2 = (2, 1)\n", 0, 1, false},
		{"type X * 2\n0 = (0, 0)\n1 = (0, 0)\n", 0, 1, true},
		{"type 2 * X\n0 = (0, 1)\n1 = (0, 2)\n2 = (1, 2)\n", 0, 1, false},
		{"type X + 2\n0 = l 1\n1 = r 1\n2 = r 1\n3 = r 0\n", 0, 1, false},
		{"type X + 2\n0 = l 1\n1 = r 1\n2 = r 1\n3 = r 0\n", 1, 0, false},
		{"type X + 2\n0 = l 1\n1 = r 1\n2 = r 1\n3 = r 0\n", 2, 3, false},
		{"type X + 2\n0 = l 1\n1 = r 1\n2 = r 1\n3 = l 2\n", 0, 3, true},
		{"type X + X\n0 = l 0\n1 = l 2\n2 = r 2\n", 0, 1, false},
		{"type (1 + X) ^ 3\n0 = [r 0, r 0, r 1]\n1 = [r 0, r 1, l 0]\n", 0, 1, false},
		{"type (1 + X) ^ 3\n0 = [r 0, r 0, r 1]\n1 = [r 0, r 1, r 1]\n", 0, 1, true},
		{"type P(X)\n0 = {}\n1 = {0}\n2 = {0, 1}\n3 = {0, 2}\n", 2, 3, false},
		{"type P(X)\n0 = {}\n1 = {0}\n2 = {0, 1}\n3 = {0, 2}\n", 0, 1, false},
		{"type P(X)\n0 = {}\n1 = {0}\n2 = {0, 1}\n3 = {0, 1, 4}\n4 = {0}\n", 2, 3, true},
		{"type B(X)\n0 = {}\n1 = {0 : 2}\n2 = {0 : 3}\n", 1, 2, false},
		{"type B(X)\n0 = {}\n1 = {0 : 2}\n2 = {0 : 1, 3 : 1}\n3 = {}\n", 1, 2, true},
		{"type B(X)\n0 = {}\n1 = {0 : 1}\n2 = {0 : 1, 1 : 2}\n3 = {0 : 2, 1 : 1}\n", 2, 3, false},
		{"type B(X)\n0 = {}\n1 = {0 : 1048576}\n2 = {0 : 1048575}\n", 1, 2, false},
		{"type D(1 + X)\n0 = {l 0 : 1}\n1 = {l 0 : 1, r 0 : 1048575}\n2 = {l 0 : 2, r 0 : 1048573}\n", 1, 2, false},
		{"type D(1 + X)\n0 = {l 0 : 1}\n1 = {l 0 : 1, r 0 : 1}\n2 = {l 0 : 2, r 0 : 1, r 3 : 1}\n3 = {l 0 : 1}\n", 1, 2, true},
		{"type D(2 + X)\n0 = {l 0 : 1, l 1 : 1, r 0 : 2}\n1 = {r 0 : 1}\n", 0, 1, false},
		{"type D(X)\n0 = {0 : 1}\n1 = {0 : 1, 2 : 7}\n2 = {1 : 1}\n", 0, 2, true},
	} {
		s := of(c.system)
		if alike := checkVerdict(t, s, s, c.x, c.y); alike != c.alike {
			t.Errorf("%q: %d and %d: %v", c.system, c.x, c.y, alike)
		}
		sample.Lists(must(Decide(s, s, c.x, c.y)).Formula, func(l []api.Formula) {
			if a := l[0]; a.Op == api.LShare && fold.Divisor([]int{a.N, a.M}) != 1 {
				t.Errorf("%q: %d and %d: a share of %d / %d", c.system, c.x, c.y, a.N, a.M)
			}
		})
	}
}

// TestSystemsOfSmallSize checks that a formula is always found where ErrLarge is not allowed.
func TestSystemsOfSmallSize(t *testing.T) {
	small := []string{
		"2 * X", "16 * X", "P(X)", "B(X)", "2 * D(X)", "P(P(X))", "P(P(P(X)))", "P(P(P(P(X))))", "P(P(P(P(P(X)))))", "B(B(B(B(B(X)))))", "D(D(D(1 + X)))", "P(D(P(B(X))))", "D(B(D(B(P(X)))))",
		"X + (X * X)", "P(X * P(X))", "P(P(X) * P(X))", "B(X) * B(X)", "P((X * X) + 2)", "P(X ^ 2 + P(X))", "P(P(P(X) ^ 2))", "P(P(P(X + X)))", "X + P(P(X))", "P(D(P(P(X)) ^ 2))", "P(P(P(X))) ^ 2", "B(P(X) ^ 4)", "(P(X) ^ 2) ^ 2", "(2 + D(X)) ^ 2",
	}
	apart, sizes := 0, 0
	for _, text := range small {
		if nodes, _ := functor.Size(typed(text)); nodes > 6 {
			t.Fatalf("%s has %d nodes", text, nodes)
		}
		d := sample.Dice(9)
		for i := range 60 {
			s := smallSystem(&d, text, 3)
			u, v := smallSystem(&d, text, 1+i%2), smallSystem(&d, text, 2-i%2)
			for x := range s.Next {
				if a, e := Class(s, x); e != api.OK {
					t.Fatalf("%d of %q: error %d for %v", x, written(s), e, a)
				}
				for y := range s.Next {
					checkVerdict(t, s, s, x, y)
				}
			}
			for x := range u.Next {
				for y := range v.Next {
					if !checkVerdict(t, u, v, x, y) {
						apart++
						a, _ := Decide(u, v, x, y)
						size, _, _ := logic.Size(a.Formula)
						sizes = max(sizes, size)
					}
				}
			}
		}
	}
	if apart < 1000 || sizes < 8 {
		t.Errorf("%d pairs are told apart, by formulas with at most %d nodes", apart, sizes)
	}
}

// smallSystem returns some system with so many states, whose values have at most 12 nodes.
func smallSystem(d *sample.Dice, f string, many int) api.System {
	for {
		s := d.System(f, many)
		most := 0
		for _, v := range s.Next {
			most = max(most, nodes(v))
		}
		if most <= 12 {
			return s
		}
	}
}

func nodes(v api.Value) int {
	n := 1
	for _, a := range v.Args {
		n += nodes(a)
	}
	return n
}

// TestHardSystems checks systems of small size that need large formulas.
func TestHardSystems(t *testing.T) {
	for _, text := range []string{
		"type P(X ^ 2 + P(X))\n0 = {l [0, 1], l [2, 2], r {}}\n1 = {l [1, 0], l [2, 1], r {}}\n2 = {l [0, 2], r {0, 1}}\n",
		"type P(P(P(X) ^ 2))\n0 = {{}, {[{}, {}], [{0, 2}, {1}]}}\n1 = {{}, {[{}, {}], [{0}, {0}]}}\n2 = {{}, {[{}, {}], [{2}, {}]}}\n",
		"type P(P(P(X + X)))\n0 = {{{}, {l 1, r 2}, {r 0}}}\n1 = {{{}, {l 1, r 1}, {r 1}}}\n2 = {{{}, {l 0, l 1, r 2}}}\n",
		"type X + P(P(X))\n0 = r {{}, {1}, {1, 2}, {2}}\n1 = r {{}, {0}, {1, 2}}\n2 = r {{1}}\n",
		"type P(P(P(X))) ^ 2\n0 = [{{}, {{}, {1}}, {{1, 2}}}, {}]\n1 = [{{}, {{}, {0, 1}}}, {}]\n2 = [{{}, {{}, {0}, {0, 1, 2}}}, {}]\n",
		"type 2 + P(P(X))\n0 = r {{}, {0, 2}, {1}, {1, 2}}\n1 = r {{}, {0}, {0, 2}, {2}}\n2 = r {{1}, {1, 2}}\n",
		"type D(P(P(X)) + X)\n0 = {l {{0, 2}, {1}} : 1}\n1 = {l {{0}, {2}} : 1}\n2 = {l {{}, {0, 1}} : 1}\n",
		"type B(P(X))\n0 = {{} : 1, {0} : 1, {0, 1} : 2, {0, 2} : 1}\n1 = {{} : 1, {0} : 2, {1, 2} : 1, {2} : 1}\n2 = {{} : 2, {0, 1, 2} : 1, {1} : 2}\n",
		"type D(P(X))\n0 = {{} : 1, {0} : 1, {0, 1} : 2, {0, 2} : 1}\n1 = {{} : 1, {0} : 2, {1, 2} : 1, {2} : 1}\n2 = {{} : 1, {0, 1, 2} : 3, {1} : 1}\n",
	} {
		s := of(text)
		for x := range s.Next {
			for y := range s.Next {
				checkVerdict(t, s, s, x, y)
			}
			checkClass(t, s, x)
		}
	}
}

// TestFarStates checks states that differ after many steps: a formula for that has too many nodes within each other.
func TestFarStates(t *testing.T) {
	s := cycle(100, 99)
	for _, c := range []struct{ x, y, depth int }{{99, 98, 1}, {90, 91, 9}, {0, 67, 33}, {67, 0, 33}, {0, 66, 34}, {66, 0, 34}, {0, 1, 99}, {98, 1, 2}, {0, 0, 0}} {
		depth, differ, e := Depth(s, s, c.x, c.y)
		if depth != c.depth || differ != (c.depth > 0) || e != api.OK {
			t.Errorf("depth of %d and %d: %d %v %d", c.x, c.y, depth, differ, e)
		}
		if c.depth <= 33 {
			checkVerdict(t, s, s, c.x, c.y)
		} else if v, e := Decide(s, s, c.x, c.y); e != api.ErrLarge || !isZeroVerdict(v) {
			t.Errorf("%d and %d: %v %d", c.x, c.y, v, e)
		}
	}
	if a, e := Class(s, 0); e != api.ErrLarge || !isZeroFormula(a) {
		t.Errorf("class: %v %d", a, e)
	}
}

// lacking returns a system of P(X) ^ 2, and two of its states that need a large formula: both have all sets that lack one of the states 0 to last,
// but only the first one has also the set that lacks none of these. They are two chains of states, one for each input.
func lacking(last int) (s api.System, x, y int) {
	all := before(last + 1)
	s = sets(2*last+5, func(x int) []int {
		switch {
		case x == 0:
			return nil
		case x <= last:
			return []int{max(0, x-2)}
		case x == last+1:
			return all
		case x <= 2*last+2:
			return slices.Delete(slices.Clone(all), x-last-2, x-last-1)
		}
		return before(2*last + 3)[x-last-2:]
	})
	s.Functor = typed("P(X) ^ 2")
	for x, set := range s.Next {
		s.Next[x] = api.Value{Args: []api.Value{set, {}}}
		if x <= last && x%2 == 0 {
			s.Next[x] = api.Value{Args: []api.Value{{}, set}}
		}
	}
	return s, 2*last + 3, 2*last + 4
}

// TestLargeFormulas checks that formulas are found that have almost as many nodes as they may have, and that none has more.
func TestLargeFormulas(t *testing.T) {
	largest := 0
	for _, last := range []int{1, 2, 3, 10, 20, 30, 38, 39, 40, 42} {
		s, x, y := lacking(last)
		v, e := Decide(s, s, x, y)
		if e == api.ErrLarge && last > 3 && isZeroVerdict(v) {
			continue
		}
		checkVerdict(t, s, s, x, y)
		checkVerdict(t, s, s, y, x)
		size, _, _ := logic.Size(v.Formula)
		largest = max(largest, size)
	}
	if largest < 1800 {
		t.Errorf("at most %d nodes", largest)
	}
}

// TestRounds checks sets with all sets before them, whose formulas are large if they are put together from all that is before.
func TestRounds(t *testing.T) {
	s := sets(25, before)
	for x := range s.Next {
		checkVerdict(t, s, s, x, (7*x+3)%25)
		checkVerdict(t, s, s, 24, x)
	}
	v := must(Decide(s, s, 24, 23))
	if size, _, steps := logic.Size(v.Formula); size > 200 || steps < 24 {
		t.Errorf("%d nodes, %d steps", size, steps)
	}
}

// TestManyRounds checks a large system with many rounds, of which few tell states apart that have a formula.
func TestManyRounds(t *testing.T) {
	s := sets(100, before)
	checkVerdict(t, s, s, 10, 99)
	checkVerdict(t, s, s, 99, 24)
	checkVerdict(t, s, s, 99, 99)
	checkClass(t, s, 20)
	if v, e := Decide(s, s, 99, 98); e != api.ErrLarge || !isZeroVerdict(v) {
		t.Errorf("%v %d", v, e)
	}
}

func TestErrorsOfDecide(t *testing.T) {
	checkErrors(t, func(s, u api.System, x, y int) (bool, api.Errno) {
		v, e := Decide(s, u, x, y)
		return isZeroVerdict(v), e
	})
}

// checkErrors checks a call on two systems: it returns whether its result is zero, and its error.
func checkErrors(t *testing.T, call func(s, u api.System, x, y int) (bool, api.Errno)) {
	t.Helper()
	s, other, none := of(coins), states("D(X)", "{0 : 1}", "{0 : 1}", "{0 : 1}"), states("2 * D(X)")
	badFunctor := api.System{Functor: api.Functor{Kind: api.FDist}}
	badValue := of(coins)
	badValue.Next[1].N = 1
	badState := of(coins)
	badState.Next[1].Args[1].Args[0].N = 3
	for _, c := range []struct {
		name string
		s, u api.System
		x, y int
		want api.Errno
	}{
		{"x too small", s, s, -1, 0, api.ErrArg},
		{"y too small", s, s, 0, -1, api.ErrArg},
		{"x too great", s, s, 3, 0, api.ErrArg},
		{"y too great", s, s, 0, 3, api.ErrArg},
		{"least", s, s, math.MinInt, 0, api.ErrArg},
		{"greatest", s, s, 0, math.MaxInt, api.ErrArg},
		{"wraps around", s, s, math.MinInt + 3, math.MinInt, api.ErrArg},
		{"no states on the left", none, s, 0, 0, api.ErrArg},
		{"no states on the right", s, none, 0, 0, api.ErrArg},
		{"other functor", s, other, 0, 0, api.ErrArg},
		{"other functor and no state", other, s, 5, 5, api.ErrArg},
		{"functor on the left", badFunctor, s, 0, 0, api.ErrSystem},
		{"functor on the right", s, badFunctor, 0, 0, api.ErrSystem},
		{"value on the left", badValue, s, 0, 0, api.ErrSystem},
		{"value on the right", s, badValue, 0, 0, api.ErrSystem},
		{"state on the left", badState, s, 0, 0, api.ErrSystem},
		{"state on the right", s, badState, 0, 0, api.ErrSystem},
		{"system before states", badValue, s, 9, -9, api.ErrSystem},
		{"system before other functor", other, badValue, 0, 0, api.ErrSystem},
		{"system before all", badFunctor, other, 9, 9, api.ErrSystem},
	} {
		if isZero, e := call(c.s, c.u, c.x, c.y); e != c.want || !isZero {
			t.Errorf("%s: error %d, not %d, zero %v", c.name, e, c.want, isZero)
		}
	}
}

// TestVerdicts checks the verdicts on all pairs of states of many systems.
func TestVerdicts(t *testing.T) {
	count := map[bool]int{}
	samples(15, 5, func(d *sample.Dice, s, u api.System) {
		for x := range s.Next {
			for y := range u.Next {
				alike := checkVerdict(t, s, u, x, y)
				count[alike]++
				if alike != must(equiv.Alike(s, u, x, y)) {
					t.Fatalf("%d of %q and %d of %q: alike %v", x, written(s), y, written(u), alike)
				}
				a := must(Decide(s, u, x, y)).Formula
				if text := must(logic.String(s.Functor, a)); !logic.Same(parsed(s.Functor, text), a) {
					t.Fatalf("%s: not %v", text, a)
				}
			}
		}
	})
	if count[true] < 1000 || count[false] < 1000 {
		t.Errorf("%v", count)
	}
}
