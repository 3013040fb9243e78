package apart

import (
	"math"
	"slices"
	"testing"

	"ectype/api"
	"ectype/equiv"
	"ectype/logic"
	"ectype/sample"
	"ectype/system"
	"ectype/unfold"
)

// checkClass checks a formula for the class of a state by its truth.
func checkClass(t *testing.T, s api.System, x int) {
	t.Helper()
	a, e := Class(s, x)
	if e != api.OK {
		t.Fatalf("%d of %q: error %d", x, written(s), e)
	}
	classes := must(equiv.Classes(s))
	var want []int
	for y, c := range classes {
		if c == classes[x] {
			want = append(want, y)
		}
	}
	got, e := logic.True(s, a)
	if e != api.OK || !slices.Equal(got, want) {
		t.Fatalf("%d of %q: %v is true of %v, not of %v: error %d", x, written(s), a, got, want, e)
	}
}

func TestClass(t *testing.T) {
	for _, text := range []string{
		coins,
		"type X\n0 = 0\n",
		"type X\n0 = 1\n1 = 0\n",
		"type 3\n0 = 2\n1 = 1\n2 = 0\n3 = 1\n",
		"type 2 * X\n0 = (0, 1)\n1 = (0, 2)\n2 = (1, 2)\n3 = (0, 0)\n4 = (0, 3)\n",
		"type P(X)\n0 = {}\n1 = {0}\n2 = {0, 1}\n3 = {1}\n4 = {1, 3}\n5 = {4, 5}\n",
		"type B(X)\n0 = {}\n1 = {0 : 1}\n2 = {0 : 2}\n3 = {0 : 1, 1 : 1}\n4 = {1 : 2}\n",
		"type D(1 + X)\n0 = {l 0 : 1}\n1 = {r 0 : 1}\n2 = {l 0 : 1, r 0 : 1}\n3 = {l 0 : 1, r 1 : 1}\n4 = {r 1 : 1, r 2 : 1}\n",
	} {
		s := of(text)
		for x := range s.Next {
			checkClass(t, s, x)
		}
	}
}

func TestErrorsOfClass(t *testing.T) {
	s, none := of(coins), states("X")
	bad := of(coins)
	bad.Next[2].Args = nil
	for _, c := range []struct {
		s    api.System
		x    int
		want api.Errno
	}{
		{s, -1, api.ErrArg}, {s, 3, api.ErrArg}, {s, math.MinInt, api.ErrArg}, {s, math.MaxInt, api.ErrArg}, {none, 0, api.ErrArg},
		{bad, 0, api.ErrSystem}, {bad, 3, api.ErrSystem}, {api.System{Functor: api.Functor{Kind: 8}}, 0, api.ErrSystem},
	} {
		if a, e := Class(c.s, c.x); e != c.want || !isZeroFormula(a) {
			t.Errorf("%d of %v: %v %d, not %d", c.x, c.s, a, e, c.want)
		}
	}
}

// TestClasses checks the formulas for the classes of all states of many systems.
func TestClasses(t *testing.T) {
	samples(12, 6, func(d *sample.Dice, s, u api.System) {
		for x := range s.Next {
			checkClass(t, s, x)
		}
	})
	d := sample.Dice(8)
	for _, f := range []string{"2 * X ^ 2", "2 * P(X)", "P(1 + X)", "B(X)", "2 * D(X)", "P(P(X))"} {
		s := d.System(f, 100)
		for range 5 {
			checkClass(t, s, d.Below(100))
		}
	}
}

func TestDepth(t *testing.T) {
	sums := of("type X + 2\n0 = l 1\n1 = l 2\n2 = r 0\n3 = r 1\n4 = l 3\n")
	ordinals := sets(100, before)
	for _, c := range []struct {
		s, u        api.System
		x, y, depth int
	}{
		{of(coins), of(coins), 0, 1, 1},
		{of(coins), of(coins), 2, 0, 1},
		{of(coins), of(coins), 1, 2, 0},
		{of(coins), of(coins), 1, 1, 0},
		{sums, sums, 0, 2, 1},
		{sums, sums, 2, 3, 1},
		{sums, sums, 0, 1, 2},
		{sums, sums, 1, 4, 2},
		{sums, sums, 4, 0, 2},
		{states("X", "0"), states("X", "1", "0"), 0, 1, 0},
		{ordinals, ordinals, 98, 99, 99},
		{ordinals, ordinals, 0, 99, 1},
		{ordinals, ordinals, 99, 60, 61},
		// more steps than a system has states
		{cycle(99, 98), cycle(100, 98), 0, 0, 198},
		{cycle(100, 98), cycle(99, 98), 1, 1, 197},
		{cycle(100, 98), cycle(50, 48), 0, 0, 49},
		{cycle(100, 98), cycle(100, 98), 7, 7, 0},
	} {
		depth, differ, e := Depth(c.s, c.u, c.x, c.y)
		if depth != c.depth || differ != (c.depth > 0) || e != api.OK {
			t.Errorf("%d of %.60q and %d of %.60q: %d %v %d, not %d", c.x, written(c.s), c.y, written(c.u), depth, differ, e, c.depth)
		}
	}
	checkErrors(t, func(s, u api.System, x, y int) (bool, api.Errno) {
		depth, differ, e := Depth(s, u, x, y)
		return depth == 0 && !differ, e
	})
}

// TestDepths checks that unfoldings are equal below the depth, and differ there.
func TestDepths(t *testing.T) {
	count := map[int]int{}
	samples(12, 6, func(d *sample.Dice, s, u api.System) {
		for x := range s.Next {
			for y := range u.Next {
				depth, differ, e := Depth(s, u, x, y)
				want := 0
				for k := 1; k <= len(s.Next)+len(u.Next) && want == 0; k++ {
					if !must(unfold.Equal(s, u, x, y, k)) {
						want = k
					}
				}
				if depth != want || differ != (want > 0) || e != api.OK {
					t.Fatalf("%d of %q and %d of %q: %d %v %d, not %d", x, written(s), y, written(u), depth, differ, e, want)
				}
				count[want]++
			}
		}
	})
	if count[0] < 500 || count[1] < 500 || count[2] < 200 || count[3] < 20 {
		t.Error(count)
	}
}

// TestCopies checks that each state of a sum of a system with itself is told apart from the others like the original.
func TestCopies(t *testing.T) {
	s := of(coins)
	sum := must(system.Sum(s, s))
	for x := range sum.Next {
		for y := range sum.Next {
			if checkVerdict(t, sum, sum, x, y) != (x%3 == y%3 || x%3+y%3 == 3) {
				t.Errorf("%d and %d", x, y)
			}
		}
		checkClass(t, sum, x)
	}
}
