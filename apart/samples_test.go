package apart

import (
	"slices"
	"testing"

	"ectype/api"
	"ectype/bisim"
	"ectype/logic"
	"ectype/sample"
)

// What package sample has, by shorter names.
const coins = sample.Coins

var typed, of, written, states, cycle = sample.Functor, sample.System, sample.Text, sample.States, sample.Cycle

func must[R any](r R, e api.Errno) R { return sample.Must(r, e) }

// parsed returns the formula for f with this string.
func parsed(f api.Functor, s string) api.Formula { return must(logic.Parse(f, s)) }

// pairs returns a relation from the components of its pairs, one after the other.
func pairs(l ...int) [][2]int {
	var r [][2]int
	for i := 0; i < len(l); i += 2 {
		r = append(r, [2]int{l[i], l[i+1]})
	}
	return r
}

// sets returns a system of P(X), from the elements of the set of each state.
func sets(many int, elements func(x int) []int) api.System {
	s := api.System{Functor: typed("P(X)")}
	for x := range many {
		var set api.Value
		for _, y := range elements(x) {
			set.Args = append(set.Args, api.Value{N: y})
		}
		s.Next = append(s.Next, set)
	}
	return s
}

// before returns the numbers below x.
func before(x int) []int {
	l := make([]int, x)
	for y := range l {
		l[y] = y
	}
	return l
}

// functors are those of which systems are thrown: each kind, and combinations of them.
var functors = []string{
	"X", "3", "2 * X", "X * 2", "X + 2", "2 + X", "X + X", "X * X", "X ^ 3", "2 * X ^ 2", "P(X)", "2 * P(X)", "P(P(X))", "P(X * 2)", "P(1 + X)", "P(X) ^ 2", "P(P(P(X)))",
	"B(X)", "B(1 + X)", "2 * B(X)", "B(X) + X", "B(B(X))", "D(X)", "2 * D(X)", "1 + D(X)", "D(X + 2)", "D(D(1 + X))", "D(P(X))", "P(D(1 + X))", "B(P(X))", "D(B(2 * X))", "(1 + P(X)) ^ 2",
}

// samples calls do with two systems of each of the functors, many times: often all states of one behave like states of the other one.
func samples(many, most int, do func(d *sample.Dice, s, t api.System)) {
	d := sample.Dice(5)
	for _, f := range functors {
		for i := range many {
			s := d.System(f, 1+i%most)
			t := d.System(f, 1+d.Below(most))
			if i%3 > 0 {
				t, _ = d.Cover(s, len(s.Next)+d.Below(3))
			}
			do(&d, s, t)
		}
	}
}

// isZeroFormula reports whether a formula has no fields.
func isZeroFormula(a api.Formula) bool {
	return a.Op == 0 && a.N == 0 && a.M == 0 && len(a.Args) == 0
}

func isZeroVerdict(v Verdict) bool {
	return !v.Alike && len(v.Relation) == 0 && isZeroFormula(v.Formula)
}

// isBisimulation reports whether r is a bisimulation that contains a pair.
func isBisimulation(s, t api.System, r [][2]int, x, y int) bool {
	is, e := bisim.Is(s, t, r)
	return is && e == api.OK && slices.Contains(r, [2]int{x, y})
}

// isTrueOfFirst reports whether a is a formula that is true of x of s, and not of y of t.
func isTrueOfFirst(s, t api.System, x, y int, a api.Formula) bool {
	return logic.Check(s.Functor, a) == api.OK && must(logic.Holds(s, x, a)) && !must(logic.Holds(t, y, a))
}

// checkVerdict checks a verdict by the definitions alone. It returns whether the states behave alike.
func checkVerdict(t *testing.T, s, u api.System, x, y int) bool {
	t.Helper()
	v, e := Decide(s, u, x, y)
	if e != api.OK {
		t.Fatalf("%d of %q and %d of %q: error %d", x, written(s), y, written(u), e)
	}
	if v.Alike && (!isBisimulation(s, u, v.Relation, x, y) || !isZeroFormula(v.Formula)) {
		t.Fatalf("%d of %q and %d of %q: alike by %v, %v", x, written(s), y, written(u), v.Relation, v.Formula)
	}
	if !v.Alike && (!isTrueOfFirst(s, u, x, y, v.Formula) || len(v.Relation) > 0) {
		t.Fatalf("%d of %q and %d of %q: apart by %v, %v", x, written(s), y, written(u), v.Formula, v.Relation)
	}
	if right, e := Right(s, u, x, y, v); !right || e != api.OK {
		t.Fatalf("%d of %q and %d of %q: %v is not right: %d", x, written(s), y, written(u), v, e)
	}
	return v.Alike
}

// checkSmall checks that a relation contains a pair, and that it is a bisimulation, but not without any one of its other pairs.
func checkSmall(t *testing.T, s, u api.System, x, y int, r [][2]int) {
	t.Helper()
	if !isBisimulation(s, u, r, x, y) {
		t.Fatalf("%d of %q and %d of %q: %v", x, written(s), y, written(u), r)
	}
	for i, p := range r {
		if p == [2]int{x, y} {
			continue
		}
		if is, e := bisim.Is(s, u, slices.Delete(slices.Clone(r), i, i+1)); is || e != api.OK {
			t.Fatalf("%d of %q and %d of %q: %v also without %v: %d", x, written(s), y, written(u), r, p, e)
		}
	}
}
