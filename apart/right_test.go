package apart

import (
	"fmt"
	"slices"
	"testing"

	"ectype/api"
	"ectype/equiv"
	"ectype/logic"
	"ectype/sample"
)

// nots returns a formula below so many LNot.
func nots(many int, a api.Formula) api.Formula {
	for range many {
		a = api.Formula{Op: api.LNot, Args: []api.Formula{a}}
	}
	return a
}

// doubled returns the conjunction of a formula with itself, so many times within each other.
func doubled(many int, a api.Formula) api.Formula {
	for range many {
		a = api.Formula{Op: api.LAnd, Args: []api.Formula{a, a}}
	}
	return a
}

func TestRight(t *testing.T) {
	s := of(coins)
	is := func(text string) api.Formula { return parsed(s.Functor, text) }
	top, is0, is1 := api.Formula{}, is("step first is 0"), is("step first is 1")
	empty := api.Formula{Args: []api.Formula{}}
	for _, c := range []struct {
		name string
		x, y int
		v    Verdict
		want bool
	}{
		{"alike", 1, 2, Verdict{Alike: true, Relation: pairs(1, 2)}, true},
		{"alike by more pairs", 1, 2, Verdict{Alike: true, Relation: pairs(0, 0, 1, 1, 1, 2, 2, 1, 2, 2)}, true},
		{"alike with an empty list of parts", 1, 2, Verdict{Alike: true, Relation: pairs(1, 2), Formula: empty}, true},
		{"the same state", 0, 0, Verdict{Alike: true, Relation: pairs(0, 0, 1, 1, 2, 2)}, true},
		{"no pair", 1, 2, Verdict{Alike: true}, false},
		{"other pairs", 1, 2, Verdict{Alike: true, Relation: pairs(1, 1, 2, 1, 2, 2)}, false},
		{"only the inverse pair", 1, 2, Verdict{Alike: true, Relation: pairs(2, 1)}, false},
		{"no bisimulation", 0, 0, Verdict{Alike: true, Relation: pairs(0, 0, 1, 1)}, false},
		{"no bisimulation by another pair", 1, 2, Verdict{Alike: true, Relation: pairs(0, 1, 1, 2)}, false},
		{"not alike", 0, 1, Verdict{Alike: true, Relation: pairs(0, 1)}, false},
		{"not alike, all pairs", 0, 1, Verdict{Alike: true, Relation: pairs(0, 0, 0, 1, 0, 2, 1, 0, 1, 1, 1, 2, 2, 0, 2, 1, 2, 2)}, false},
		{"twice", 1, 2, Verdict{Alike: true, Relation: pairs(1, 2, 1, 2)}, false},
		{"not in order", 1, 2, Verdict{Alike: true, Relation: pairs(2, 1, 1, 2)}, false},
		{"no states", 1, 2, Verdict{Alike: true, Relation: pairs(1, 2, 3, 3)}, false},
		{"negative", 1, 2, Verdict{Alike: true, Relation: pairs(-1, 0, 1, 2)}, false},
		{"alike with a formula", 1, 2, Verdict{Alike: true, Relation: pairs(1, 2), Formula: is1}, false},
		{"alike with a number N", 1, 2, Verdict{Alike: true, Relation: pairs(1, 2), Formula: api.Formula{N: 1}}, false},
		{"alike with a number M", 1, 2, Verdict{Alike: true, Relation: pairs(1, 2), Formula: api.Formula{M: 1}}, false},
		{"alike with a part", 1, 2, Verdict{Alike: true, Relation: pairs(1, 2), Formula: api.Formula{Args: []api.Formula{top}}}, false},
		{"alike with an operator", 1, 2, Verdict{Alike: true, Relation: pairs(1, 2), Formula: api.Formula{Op: api.LNot}}, false},
		{"apart", 0, 1, Verdict{Formula: is0}, true},
		{"apart with an empty relation", 0, 1, Verdict{Formula: is0, Relation: [][2]int{}}, true},
		{"apart the other way round", 1, 0, Verdict{Formula: is1}, true},
		{"apart by more steps", 1, 0, Verdict{Formula: is("(not step first is 0 and step second share 1 / 1 at step first is 1)")}, true},
		{"true of the other one", 0, 1, Verdict{Formula: is1}, false},
		{"true of both", 1, 2, Verdict{Formula: is1}, false},
		{"true of none", 1, 2, Verdict{Formula: is0}, false},
		{"true of both that are apart", 0, 1, Verdict{Formula: is("step second share 2 / 3 at step first is 1")}, false},
		{"true of none that are apart", 0, 1, Verdict{Formula: is("not top")}, false},
		{"zero", 0, 1, Verdict{}, false},
		{"zero on states that behave alike", 1, 2, Verdict{}, false},
		{"apart with a relation", 0, 1, Verdict{Formula: is0, Relation: pairs(0, 0, 1, 1, 2, 2)}, false},
		{"apart with an invalid relation", 0, 1, Verdict{Formula: is0, Relation: pairs(7, 7)}, false},
		{"no formula for the functor", 0, 1, Verdict{Formula: parsed(typed("2"), "step is 0")}, false},
		{"no state formula", 0, 1, Verdict{Formula: is0.Args[0]}, false},
		{"no operator", 0, 1, Verdict{Formula: api.Formula{Op: api.LVar}}, false},
		{"negative operator", 0, 1, Verdict{Formula: api.Formula{Op: -1}}, false},
		{"no number", 0, 1, Verdict{Formula: api.Formula{Op: api.LStep, Args: []api.Formula{{Op: api.LFirst, Args: []api.Formula{{Op: api.LIs, N: -2}}}}}}, false},
		{"greatest depth", 0, 1, Verdict{Formula: nots(97, is1)}, true},
		{"too deep", 0, 1, Verdict{Formula: nots(98, is0)}, false},
		{"1023 nodes", 0, 1, Verdict{Formula: doubled(8, is0)}, true},
		{"2047 nodes", 0, 1, Verdict{Formula: doubled(9, is0)}, false},
		{"very large", 0, 1, Verdict{Formula: doubled(90, is0)}, false},
		{"very large on states that behave alike", 1, 2, Verdict{Alike: true, Relation: pairs(1, 2), Formula: doubled(90, is0)}, false},
	} {
		if got, e := Right(s, s, c.x, c.y, c.v); got != c.want || e != api.OK {
			t.Errorf("%s: %v %d", c.name, got, e)
		}
	}
	checkErrors(t, func(s, u api.System, x, y int) (bool, api.Errno) {
		right, e := Right(s, u, x, y, Verdict{Formula: doubled(90, is0), Relation: pairs(7, 7)})
		return !right, e
	})
}

// TestRightOfTwoSystems checks that the states of a relation and of a formula are those of two systems.
func TestRightOfTwoSystems(t *testing.T) {
	s, u := states("2 * X", "(0, 1)", "(1, 0)"), states("2 * X", "(1, 2)", "(0, 0)", "(0, 0)")
	for _, c := range []struct {
		x, y int
		v    Verdict
		want bool
	}{
		{0, 2, Verdict{Alike: true, Relation: pairs(0, 2, 1, 0)}, true},
		{0, 1, Verdict{Alike: true, Relation: pairs(0, 1, 0, 2, 1, 0)}, true},
		{0, 1, Verdict{Alike: true, Relation: pairs(0, 1, 1, 0)}, false},
		{1, 0, Verdict{Alike: true, Relation: pairs(0, 2, 1, 0)}, true},
		{2, 0, Verdict{Alike: true, Relation: pairs(0, 2, 1, 0, 2, 0)}, false},
		{1, 2, Verdict{Formula: parsed(s.Functor, "step first is 1")}, true},
		{0, 0, Verdict{Formula: parsed(s.Functor, "step first is 0")}, true},
		{0, 1, Verdict{Formula: parsed(s.Functor, "step first is 0")}, false},
	} {
		want := api.OK
		if c.x > 1 {
			want = api.ErrArg
		}
		if got, e := Right(s, u, c.x, c.y, c.v); got != c.want || e != want {
			t.Errorf("%v: %v %d", c, got, e)
		}
	}
}

// TestOneOfBoth checks that right verdicts are those that the definition asks for, and that they agree with each other, for many relations and formulas.
func TestOneOfBoth(t *testing.T) {
	right := map[bool]int{}
	samples(6, 3, func(d *sample.Dice, s, u api.System) {
		for x := range s.Next {
			for y := range u.Next {
				alike := must(equiv.Alike(s, u, x, y))
				for range 40 {
					v := Verdict{Formula: d.Formula(s.Functor, 1+d.Below(10))}
					want := isTrueOfFirst(s, u, x, y, v.Formula)
					if d.Below(2) == 0 {
						v = Verdict{Alike: true, Relation: someOf(d, must(Small(s, s, x, x)), len(u.Next))}
						if alike && d.Below(3) > 0 {
							v.Relation = someOf(d, must(Small(s, u, x, y)), len(u.Next))
						}
						want = isBisimulation(s, u, v.Relation, x, y)
					}
					got, e := Right(s, u, x, y, v)
					if got != want || e != api.OK || got && v.Alike != alike {
						t.Fatalf("%d of %q and %d of %q: %v: right %v %d, alike %v", x, written(s), y, written(u), v, got, e, alike)
					}
					if got {
						right[v.Alike]++
					}
				}
			}
		}
	})
	if right[true] < 500 || right[false] < 300 {
		t.Error(right)
	}
}

// someOf returns the pairs of r, sometimes without one of them, or with another one, whose second states are below n.
func someOf(d *sample.Dice, r [][2]int, n int) [][2]int {
	r = slices.DeleteFunc(r, func(p [2]int) bool { return p[1] >= n })
	if len(r) > 0 && d.Below(4) == 0 {
		i := d.Below(len(r))
		r = slices.Delete(r, i, i+1)
	}
	if p := [2]int{d.Below(2), d.Below(n)}; d.Below(4) == 0 && !slices.Contains(r, p) {
		r = append(r, p)
	}
	return ordered(r)
}

// TestStepsOfFormulas checks that formulas have, on some path, at least as many steps as the depth, and that there are never fewer.
func TestStepsOfFormulas(t *testing.T) {
	count := map[string]int{}
	samples(12, 6, func(d *sample.Dice, s, u api.System) {
		for x := range s.Next {
			for y := range u.Next {
				depth, differ, _ := Depth(s, u, x, y)
				v := must(Decide(s, u, x, y))
				_, _, steps := logic.Size(v.Formula)
				if v.Alike == differ || differ && steps < depth {
					t.Fatalf("%d of %q and %d of %q: depth %d, %v with %d steps", x, written(s), y, written(u), depth, v, steps)
				}
				count[fmt.Sprint(depth)]++
			}
		}
	})
	if count["1"] < 500 || count["2"] < 200 || count["3"] < 20 {
		t.Error(count)
	}
}
