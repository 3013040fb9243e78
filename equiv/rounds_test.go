package equiv

import (
	"fmt"
	"math"
	"slices"
	"testing"

	"ectype/api"
	"ectype/functor"
	"ectype/system"
	"ectype/unfold"
	"ectype/value"
)

func TestRounds(t *testing.T) {
	for _, c := range []struct {
		s    api.System
		want string // the rounds up to the stable one
	}{
		{of(coins), "[[0 0 0] [0 1 1]]"},
		{states("X"), "[[]]"},
		{states("X", "1", "0"), "[[0 0]]"},
		{states("3", "2", "0", "2"), "[[0 0 0] [0 1 0]]"},
		{states("2 * X", "(1, 0)", "(0, 1)", "(1, 2)"), "[[0 0 0] [0 1 0]]"},
		{chain(4, 1), "[[0 0 0 0] [0 0 0 1] [0 0 1 2] [0 1 2 3]]"},
		{chain(4, 0), "[[0 0 0 0]]"},
		{states("X + 1", "l 1", "l 2", "r 0", "l 2"), "[[0 0 0 0] [0 0 1 0] [0 1 2 1]]"},
		{states("X ^ 3", "[0, 1, 1]", "[1, 1, 0]"), "[[0 0]]"},
		{states("X * X", "(0, 1)", "(1, 1)"), "[[0 0]]"},
		{states("2 * X ^ 2", "(1, [1, 2])", "(0, [0, 0])", "(0, [0, 3])", "(1, [2, 1])"), "[[0 0 0 0] [0 1 1 0]]"},
		{states("P(X)", "{}", "{0}", "{0, 1}", "{1}"), "[[0 0 0 0] [0 1 1 1] [0 1 2 3]]"},
		{states("P(X)", "{1, 2}", "{0}", "{0, 1}"), "[[0 0 0]]"},
		{states("B(X)", "{}", "{0 : 2}", "{0 : 1, 3 : 1}", "{}", "{0 : 1}"), "[[0 0 0 0 0] [0 1 1 0 2]]"},
		{states("D(X)", "{0 : 1, 1 : 2}", "{1 : 1}"), "[[0 0]]"},
		{states("2 * D(X)", "(0, {1 : 1, 2 : 2})", "(1, {1 : 1})", "(0, {2 : 1})", "(0, {1 : 2, 2 : 1})", "(0, {1 : 1, 0 : 2})"), "[[0 0 0 0 0] [0 1 0 0 0] [0 1 2 3 0] [0 1 2 3 4]]"},
		{states("P(P(X))", "{}", "{{}}", "{{0}}", "{{0}, {1}}", "{{0, 1}}"), "[[0 0 0 0 0] [0 1 2 2 2] [0 1 2 3 4]]"},
	} {
		rounds := [][]int{}
		stable := must(Stable(c.s))
		for k := range stable + 1 {
			rounds = append(rounds, must(Round(c.s, k)))
		}
		if got := fmt.Sprint(rounds); got != c.want {
			t.Errorf("%s: %s, not %s", written(c.s), got, c.want)
		}
		for _, k := range []int{stable, stable + 1, stable + 2, 1000, math.MaxInt} {
			if !slices.Equal(must(Round(c.s, k)), must(Classes(c.s))) {
				t.Errorf("%s: round %d is not the stable one", written(c.s), k)
			}
		}
	}
}

// nextRound is the definition of a round by the one before it.
func nextRound(s api.System, round []int) []int {
	var images []api.Value
	next := make([]int, len(s.Next))
	classes := 0
	for x, v := range s.Next {
		w := must(value.Map(s.Functor, len(s.Next), v, round))
		y := slices.IndexFunc(images, func(u api.Value) bool { return value.Compare(u, w) == 0 })
		if y >= 0 {
			next[x] = next[y]
		} else {
			next[x] = classes
			classes++
		}
		images = append(images, w)
	}
	return next
}

// checkRounds compares the rounds of s with their definition, and with the unfoldings to the same depths.
func checkRounds(t *testing.T, s api.System) {
	t.Helper()
	round, stable, isStable := make([]int, len(s.Next)), 0, false
	for k := 0; k < stable+3; k++ {
		if got := must(Round(s, k)); !slices.Equal(got, round) {
			t.Fatalf("%s: round %d is %v, not %v", written(s), k, got, round)
		}
		for x := range s.Next {
			for c := range slices.Max(round) + 1 {
				if must(unfold.Equal(s, s, x, slices.Index(round, c), k)) != (c == round[x]) {
					t.Fatalf("%s: round %d is %v, but the unfoldings of %d and class %d say otherwise", written(s), k, round, x, c)
				}
			}
		}
		next := nextRound(s, round)
		isStable = isStable || slices.Equal(next, round)
		if !isStable {
			stable++
		}
		round = next
	}
	if got := must(Stable(s)); got != stable {
		t.Fatalf("%s: stable round %d, not %d", written(s), got, stable)
	}
	if got := must(Classes(s)); !slices.Equal(got, round) {
		t.Fatalf("%s: classes %v, not %v", written(s), got, round)
	}
}

func TestRoundsByDefinition(t *testing.T) {
	thrownSystems(15, 5, func(d *dice, s api.System) {
		checkRounds(t, s)
		cover, _ := d.Cover(s, len(s.Next)+2)
		checkRounds(t, cover)
	})
	d := dice{2}
	for _, f := range functors {
		checkRounds(t, d.System(f, 10))
	}
}

// TestManyRounds has as many rounds as there can be, also where each of them splits only one class.
func TestManyRounds(t *testing.T) {
	s := chain(100, 1)
	if k := must(Stable(s)); k != 99 {
		t.Errorf("stable round %d", k)
	}
	for k := range 102 {
		var want []int
		for x := range 100 {
			want = append(want, max(0, x-99+min(k, 99)))
		}
		if got := must(Round(s, k)); !slices.Equal(got, want) {
			t.Fatalf("round %d: %v", k, got)
		}
	}
	if s := ordinals(4); must(Stable(s)) != 99 || slices.Max(must(Classes(s))) != 99 {
		t.Error("ordinals")
	}
	if s := ring(0); must(Stable(s)) != 1 || slices.Max(must(Classes(s))) != 99 {
		t.Error("ring")
	}
}

func TestClassesOfOneBehavior(t *testing.T) {
	thrownSystems(20, 4, func(_ *dice, s api.System) {
		alike := behaveAlike(s)
		classes := must(Classes(s))
		for x := range s.Next {
			for y := range s.Next {
				if (classes[x] == classes[y]) != alike(x, y) {
					t.Fatalf("%s: the classes are %v, but %d and %d are alike: %v", written(s), classes, x, y, alike(x, y))
				}
			}
		}
	})
}

func TestAlike(t *testing.T) {
	two := states("2 * D(X)", "(1, {0 : 1})", "(0, {0 : 3, 2 : 1})", "(1, {0 : 1, 2 : 4})", "(0, {1 : 1, 0 : 4})", "(0, {3 : 1})")
	for _, c := range []struct {
		s, t api.System
		x, y int
		want bool
	}{
		{of(coins), of(coins), 0, 0, true},
		{of(coins), of(coins), 1, 2, true},
		{of(coins), of(coins), 0, 1, false},
		{of(coins), two, 1, 0, true},
		{of(coins), two, 1, 2, true},
		{of(coins), two, 0, 0, false},
		{of(coins), two, 0, 1, true},
		{of(coins), two, 0, 3, false},
		{of(coins), two, 0, 4, false},
		{chain(3, 1), chain(3, 1), 0, 1, false},
		{chain(3, 1), chain(4, 1), 0, 1, true},
		{chain(3, 1), chain(4, 1), 0, 0, false},
		{chain(3, 0), chain(4, 0), 0, 3, true},
		{states("X", "0"), states("X", "1", "2", "0"), 0, 2, true},
		{states("4", "3", "2"), states("4", "2"), 0, 0, false},
		{states("4", "3", "2"), states("4", "2"), 1, 0, true},
		{states("P(X)", "{}"), states("P(X)", "{0}"), 0, 0, false},
		{states("P(X)", "{0, 1}", "{0}"), states("P(X)", "{0}"), 1, 0, true},
		{states("B(X)", "{0 : 2}"), states("B(X)", "{0 : 1, 1 : 1}", "{1 : 2}"), 0, 0, true},
		{states("B(X)", "{0 : 2}"), states("B(X)", "{0 : 1, 1 : 1}", "{1 : 3}"), 0, 0, false},
		{states("D(X)", "{0 : 1}"), states("D(X)", "{0 : 1, 1 : 1}", "{1 : 1}"), 0, 1, true},
	} {
		one, e := Alike(c.s, c.t, c.x, c.y)
		two, f := Alike(c.t, c.s, c.y, c.x)
		if one != c.want || two != c.want || e != api.OK || f != api.OK {
			t.Errorf("%d of %s and %d of %s: %v %v, errors %d %d", c.x, written(c.s), c.y, written(c.t), one, two, e, f)
		}
	}
}

// TestAlikeByDefinition compares states of two systems by the homomorphisms from the sum of both.
func TestAlikeByDefinition(t *testing.T) {
	thrownSystems(30, 3, func(d *dice, s api.System) {
		u := d.System(must(functor.String(s.Functor)), 1+d.Below(3))
		alike := behaveAlike(must(system.Sum(s, u)))
		for x := range s.Next {
			for y := range u.Next {
				if got, want := must(Alike(s, u, x, y)), alike(x, len(s.Next)+y); got != want {
					t.Fatalf("%d of %s and %d of %s: %v", x, written(s), y, written(u), got)
				}
			}
		}
	})
}

func TestAlikeInCovers(t *testing.T) {
	thrownSystems(8, 4, func(d *dice, s api.System) {
		c, h := d.Cover(s, 12)
		if !must(system.Is(c, s, h)) {
			t.Fatalf("%s is no cover of %s along %v", written(c), written(s), h)
		}
		classes := must(Classes(s))
		for x := range c.Next {
			for y := range s.Next {
				if got := must(Alike(c, s, x, y)); got != (classes[h[x]] == classes[y]) {
					t.Fatalf("%d of %s and %d of %s: %v", x, written(c), y, written(s), got)
				}
			}
		}
	})
}

// TestAlikeOfManyStates has 200 states of which no two behave alike: more than one system may have.
func TestAlikeOfManyStates(t *testing.T) {
	even, odd := ring(0), ring(8)
	for x := range 100 {
		if !must(Alike(even, even, x, x)) || must(Alike(even, odd, x, x)) || must(Alike(odd, odd, x, (x+1)%100)) {
			t.Fatalf("ring: %d", x)
		}
	}
	// States 0 have the same output now, so that they are in the same one of 199 classes until their successors are looked at.
	odd.Next[0] = even.Next[0]
	if must(Alike(even, odd, 0, 0)) || must(Alike(odd, even, 0, 0)) || must(Alike(even, odd, 99, 99)) {
		t.Error("rings with one equal output")
	}
	zeros, ones := chain(100, 0), chain(100, 1)
	for x := range 100 {
		if must(Alike(zeros, ones, x, x)) || must(Alike(ones, ones, x, 99-x)) || !must(Alike(zeros, zeros, x, 99-x)) {
			t.Fatalf("chain: %d", x)
		}
	}
	if !must(Alike(ones, chain(99, 1), 1, 0)) || !must(Alike(chain(99, 1), ones, 0, 1)) || must(Alike(ones, chain(99, 1), 0, 0)) {
		t.Error("chains of different lengths")
	}
	large := ordinals(4)
	if !must(Alike(large, large, 99, 99)) || must(Alike(large, large, 99, 98)) {
		t.Error("ordinals")
	}
}
