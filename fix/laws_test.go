package fix

import (
	"slices"
	"testing"

	"ectype/api"
	"ectype/equiv"
	"ectype/logic"
	"ectype/sample"
	"ectype/system"
)

// larger calls do with large systems, and equations for each.
func larger(many int, do func(d *sample.Dice, s api.System, l []api.Equation)) {
	d := sample.Dice(3)
	for _, f := range []string{"2 * X ^ 2", "2 * P(X)", "B(1 + X)", "2 * D(X)", "P(P(X))", "4 * X"} {
		for i := range many {
			s := d.System(f, 40+d.Below(61))
			do(&d, s, d.Equations(s.Functor, 1+i%4, 12+d.Below(10)))
		}
	}
}

// TestSolutionsAreSolutions checks that Apply of a solution is the solution.
func TestSolutionsAreSolutions(t *testing.T) {
	count := map[bool]int{}
	compare := func(_ *sample.Dice, s api.System, l []api.Equation) {
		solution := must(Solve(s, l))
		if got := must(Apply(s, l, solution)); !same(got, solution) {
			t.Fatalf("%s in %s: %v became %v", allWords(s.Functor, l), written(s), solution, got)
		}
		for _, x := range solution {
			count[len(x) > 0 && len(x) < len(s.Next)]++
		}
	}
	samples(100, 8, 14, 4, compare)
	larger(40, compare)
	if count[true] < 1500 {
		t.Errorf("%v", count)
	}
}

// TestDualsHaveComplements checks that the solution of Dual consists of the complements.
func TestDualsHaveComplements(t *testing.T) {
	count := map[api.Errno]int{}
	compare := func(_ *sample.Dice, s api.System, l []api.Equation) {
		dual, e := Dual(s.Functor, l)
		if count[e]++; e != api.OK {
			return
		}
		got := must(Solve(s, dual))
		for k, x := range must(Solve(s, l)) {
			if !slices.Equal(got[k], complement(x, len(s.Next))) {
				t.Fatalf("%s in %s: %v is no complement of %v", allWords(s.Functor, l), written(s), got[k], x)
			}
		}
	}
	samples(100, 8, 14, 4, compare)
	larger(40, compare)
	for _, isGreatest := range []bool{false, true} {
		d := sample.Dice(1)
		for range 50 {
			compare(&d, d.System("8 * P(X)", 12), games(isGreatest))
		}
	}
	if count[api.OK] < 2500 {
		t.Errorf("%v", count)
	}
}

// TestRoundsLeadToTheSolution checks that the formulas of a round that is late enough are true of the solution if all equations are of one kind,
// and those of any round of supersets of a greatest one and of subsets of a least one.
func TestRoundsLeadToTheSolution(t *testing.T) {
	count := map[api.Errno]int{}
	part := 0
	samples(60, 5, 8, 3, func(d *sample.Dice, s api.System, l []api.Equation) {
		for k := range l {
			l[k].Greatest = l[0].Greatest
		}
		solution := must(Solve(s, l))
		for _, k := range []int{0, 1, 2, len(s.Next) * len(l), len(s.Next)*len(l) + 1 + d.Below(5)} {
			formulas, e := Rounds(s.Functor, l, k)
			if k >= len(s.Next)*len(l) {
				count[e]++
			}
			for i, a := range formulas {
				got := must(logic.True(s, a))
				if k >= len(s.Next)*len(l) && !slices.Equal(got, solution[i]) || l[0].Greatest && !isWithin(solution[i], got) || !l[0].Greatest && !isWithin(got, solution[i]) {
					t.Fatalf("%s in %s: round %d is true of %v, not of %v", allWords(s.Functor, l), written(s), k, got, solution[i])
				}
				if k >= 2 && len(got) > 0 && len(got) < len(s.Next) {
					part++
				}
			}
		}
	})
	if count[api.OK] < 1000 || part < 500 {
		t.Errorf("%v, %d sets that are neither empty nor full", count, part)
	}
	// A line takes as many rounds as it has states; the second equation waits for the first one at all states but the last.
	const f = "2 * P(X)"
	s := line(5)
	l := []api.Equation{least(f, "not (not step first is 1 and not step second some at V0)"), least(f, "not (not step first is 1 and not (V0 and step second some at V1))")}
	for k := range 11 {
		want := [2]int{min(k, 5), min(max(k-1, min(k, 1)), 5)}
		for i, a := range must(Rounds(s.Functor, l, k)) {
			if got := must(logic.True(s, a)); len(got) != want[i] {
				t.Errorf("equation %d in round %d: %v", i, k, got)
			}
		}
	}
}

// TestInvariance checks that states that behave alike belong to the same sets of a solution, and that homomorphisms keep them.
func TestInvariance(t *testing.T) {
	count := map[bool]int{}
	alike := 0
	compare := func(d *sample.Dice, s api.System, l []api.Equation) {
		c, h := d.Cover(s, len(s.Next)+d.Below(101-len(s.Next)))
		if e := system.Check(c); e != api.OK {
			t.Fatalf("error %d", e)
		}
		classes := must(equiv.Classes(s))
		below, above := must(Solve(s, l)), must(Solve(c, l))
		for k := range l {
			for x, y := range h {
				is := slices.Contains(below[k], y)
				if count[is]++; slices.Contains(above[k], x) != is {
					t.Fatalf("%s: %d of %s and %d of %s", allWords(s.Functor, l), y, written(s), x, written(c))
				}
			}
			for x := range classes {
				y := slices.Index(classes, classes[x])
				if x != y {
					alike++
				}
				if slices.Contains(below[k], x) != slices.Contains(below[k], y) {
					t.Fatalf("%s: %d and %d of %s", allWords(s.Functor, l), x, y, written(s))
				}
			}
		}
	}
	samples(30, 5, 14, 4, compare)
	larger(10, compare)
	if count[false] < 10000 || count[true] < 10000 || alike < 500 {
		t.Errorf("%v, %d states that behave alike", count, alike)
	}
}

// TestReachability compares the solutions of Always and Possible with the states that can be reached.
func TestReachability(t *testing.T) {
	count := map[[2]bool]int{}
	compare := func(s api.System, a api.Formula) {
		t.Helper()
		always, possible := must(Solve(s, must(Always(s.Functor, a)))), must(Solve(s, must(Possible(s.Functor, a))))
		next := must(logic.True(s, must(Every(s.Functor, a))))
		is := must(logic.True(s, a))
		for x := range s.Next {
			all := reached(s, x)
			isAlways, isPossible := isWithin(all, is), slices.ContainsFunc(all, func(y int) bool { return slices.Contains(is, y) })
			count[[2]bool{isAlways, isPossible}]++
			if slices.Contains(always[0], x) != isAlways || slices.Contains(possible[0], x) != isPossible {
				t.Fatalf("%s from %d in %s: %v always, %v possible", must(logic.String(s.Functor, a)), x, written(s), always, possible)
			}
			if isNext := isWithin(successors(s, x), is); slices.Contains(next, x) != isNext {
				t.Fatalf("%s after %d in %s: %v", must(logic.String(s.Functor, a)), x, written(s), next)
			}
		}
	}
	samples(60, 7, 2, 1, func(d *sample.Dice, s api.System, _ []api.Equation) { compare(s, d.Formula(s.Functor, 1+d.Below(8))) })
	d := sample.Dice(7)
	for _, f := range []string{"4 * X", "3 * (1 + X)", "16 * X ^ 2", "2 * P(X)", "2 * B(1 + X)", "2 * D(1 + X)"} {
		for range 5 {
			s := d.System(f, 100)
			compare(s, must(logic.Parse(s.Functor, "step first is 1")))
			compare(s, must(logic.Parse(s.Functor, "not step first is 0")))
		}
	}
	if count[[2]bool{false, false}] < 1000 || count[[2]bool{false, true}] < 1000 || count[[2]bool{true, true}] < 1000 {
		t.Errorf("%v", count)
	}
}
