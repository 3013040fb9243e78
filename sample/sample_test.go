package sample

import (
	"testing"

	"ectype/api"
	"ectype/functor"
	"ectype/logic"
	"ectype/recur"
	"ectype/system"
	"ectype/term"
)

// functors have each kind, and combinations of them.
var functors = []string{"X", "3", "X * 2", "2 + X", "X ^ 3", "P(X)", "B(1 + X)", "2 * D(X)", "D(P(X))", "P(B(X)) ^ 2"}

func TestSystemsAreValid(t *testing.T) {
	d := Dice(1)
	for _, f := range functors {
		for i := range 20 {
			if s := d.System(f, 1+i%5); system.Check(s) != api.OK || len(s.Next) != 1+i%5 {
				t.Errorf("%s: %v is no system of %d states", f, s, 1+i%5)
			}
		}
	}
}

func TestCoversAreHomomorphisms(t *testing.T) {
	d := Dice(2)
	for _, f := range functors {
		for i := range 20 {
			s := d.System(f, 1+i%5)
			c, h := d.Cover(s, 6+i)
			if is, e := system.Is(c, s, h); !is || e != api.OK || len(c.Next) != 6+i {
				t.Errorf("%s: %v is no homomorphism from a system of %d states: error %d", f, h, len(c.Next), e)
			}
		}
	}
}

func TestFormulasAreValid(t *testing.T) {
	d := Dice(4)
	steps := 0
	for _, text := range functors {
		f, _ := functor.Parse(text)
		for i := range 100 {
			a := d.Formula(f, 1+i%20)
			_, depth, k := logic.Size(a)
			if logic.Check(f, a) != api.OK || depth > 1+i%20 {
				t.Errorf("%s: %v is no formula of a depth of at most %d", text, a, 1+i%20)
			}
			steps = max(steps, k)
		}
	}
	if steps < 4 {
		t.Errorf("no formula has more than %d steps within each other", steps)
	}
}

func TestTheSameNumbersFromTheSameStart(t *testing.T) {
	c, d := Dice(3), Dice(3)
	for n := 1; n < 100; n++ {
		if x, y := c.Below(n), d.Below(n); x != y || x < 0 || x >= n {
			t.Errorf("%d and %d below %d", x, y, n)
		}
	}
}

// TestEquationsAreValid checks that variables stand only for formulas about states, below an even number of LNot, and that they are all used.
func TestEquationsAreValid(t *testing.T) {
	d := Dice(5)
	var kinds [2]int
	var uses [4]int
	for _, text := range functors {
		f, _ := functor.Parse(text)
		for i := range 100 {
			many, depth := 1+i%4, 2+i%20
			l := d.Equations(f, many, depth)
			if len(l) != many {
				t.Fatalf("%d equations, not %d", len(l), many)
			}
			for _, q := range l {
				if q.Greatest {
					kinds[1]++
				} else {
					kinds[0]++
				}
				plain := withStates(t, q.Body, many, false, &uses)
				if _, k, _ := logic.Size(q.Body); k > depth || logic.Check(f, plain) != api.OK {
					t.Errorf("%s: %v is no Body of a depth of at most %d", text, q.Body, depth)
				}
			}
		}
	}
	if kinds[0] < 1000 || kinds[1] < 1000 || uses[3] < 200 || uses[0] < uses[3] {
		t.Errorf("%v kinds of equations, %v variables", kinds, uses)
	}
}

// withStates returns a with a formula that can only be about states in the place of each of so many variables.
func withStates(t *testing.T, a api.Formula, many int, negative bool, uses *[4]int) api.Formula {
	if a.Op == api.LVar {
		if negative || a.N >= many || len(a.Args) > 0 || a.M != 0 {
			t.Fatalf("%v below an odd number of LNot: %v", a, negative)
		}
		uses[a.N]++
		return api.Formula{Op: api.LStep, Args: []api.Formula{{}}}
	}
	b := api.Formula{Op: a.Op, N: a.N, M: a.M}
	for _, part := range a.Args {
		b.Args = append(b.Args, withStates(t, part, many, negative != (a.Op == api.LNot), uses))
	}
	return b
}

func TestTermsAreValid(t *testing.T) {
	d := Dice(7)
	var sizes [13]int
	invalid := 0
	for _, text := range functors {
		f, _ := functor.Parse(text)
		for i := range 100 {
			x := d.Term(f, 1+i%12)
			_, recursions := term.Size(x)
			if term.Check(f, x) != api.OK || recursions > 1+i%12 {
				t.Fatalf("%s: %v is no term with at most %d recursions", text, x, 1+i%12)
			}
			sizes[recursions]++
			before, _ := term.String(f, x)
			if term.Check(f, d.ChangedTerm(x)) != api.OK {
				invalid++
			}
			if after, _ := term.String(f, x); after != before {
				t.Fatalf("%s was changed", before)
			}
		}
	}
	if sizes[1] < 100 || sizes[3] < 30 || sizes[12] < 20 || invalid < 300 || invalid > 700 {
		t.Errorf("%v recursions, %d changed terms are invalid", sizes, invalid)
	}
}

// TestEquationTermsAreValid checks that they are recursions whose variables stand for equations, or refer to recursions in them.
func TestEquationTermsAreValid(t *testing.T) {
	d := Dice(12)
	open, closed := 0, 0
	for _, text := range functors {
		f, _ := functor.Parse(text)
		for i := range 100 {
			many, recursions := 1+i%5, 1+i%3
			l := d.EquationTerms(f, many, recursions)
			if len(l) != many {
				t.Fatalf("%d equation terms, not %d", len(l), many)
			}
			for _, x := range l {
				if _, n := term.Size(x); n < 1 || n > recursions || len(x.Body) != 1 || !recur.IsTerm(f, x, many) {
					t.Fatalf("%s: %v is no equation term with at most %d recursions", text, x, recursions)
				}
				if recur.IsTerm(f, x, many-1) {
					closed++
				} else {
					open++
				}
			}
		}
	}
	if open < 500 || closed < 500 {
		t.Errorf("%d have a variable for the last equation, %d have none", open, closed)
	}
}
