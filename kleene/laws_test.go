package kleene

import (
	"fmt"
	"slices"
	"testing"

	"ectype/api"
	"ectype/equiv"
	"ectype/sample"
	"ectype/system"
	"ectype/term"
)

// TestKleene checks P11.4: the term of a state describes its behavior.
func TestKleene(t *testing.T) {
	d := sample.Dice(1)
	checked := 0
	for _, f := range functors {
		for i := range 60 {
			s := d.System(f, 1+i%8)
			for x := range s.Next {
				u, e := Of(s, x)
				if e == api.ErrLarge {
					continue
				}
				is, known := alike(s, x, must(u, e))
				if known && !is {
					t.Fatalf("%d of %s does not behave like %s", x, written(s), words(f, u)[0])
				}
				if known {
					checked++
				}
			}
		}
	}
	if checked < 4000 {
		t.Errorf("%d terms", checked)
	}
	s := of(coins)
	if is, known := alike(s, 0, must(Of(s, 1))); is || !known {
		t.Error("states that do not behave alike have the same terms")
	}
}

// TestThereAndBack checks that terms whose systems are translated to terms describe the same behavior.
func TestThereAndBack(t *testing.T) {
	d := sample.Dice(2)
	checked := 0
	for _, f := range functors {
		for i := range 40 {
			x := d.Term(typed(f), 1+i%8)
			s := must(term.System(typed(f), x))
			u, e := Of(s, 0)
			if e == api.ErrLarge {
				continue
			}
			is, known := alike(s, 0, must(u, e))
			if known && !is {
				t.Fatalf("%s does not behave like %s", words(f, x)[0], words(f, u)[0])
			}
			if known {
				checked++
			}
		}
	}
	if checked < 700 {
		t.Errorf("%d terms", checked)
	}
}

// TestSolutions checks the first part of P11.5: the solution of an equation describes the behavior of its state in the system of equations.
func TestSolutions(t *testing.T) {
	checked := 0
	equationLists(60, 6, 4, func(d *sample.Dice, f string, l []api.Term) {
		s, first, e := System(typed(f), l)
		solutions, large := Solve(typed(f), l)
		if e != api.OK || large != api.OK {
			return
		}
		for i, x := range solutions {
			is, known := alike(s, first[i], x)
			if known && !is {
				t.Fatalf("%s: %q: %s does not behave like %d of %s", f, words(f, l...), words(f, x)[0], first[i], written(s))
			}
			if known {
				checked++
			}
		}
	})
	if checked < 3000 {
		t.Errorf("%d solutions", checked)
	}
}

// TestSystemOfEquations checks the second part of P11.5: the system of the equations of a system is that system.
func TestSystemOfEquations(t *testing.T) {
	expectBack := func(s api.System) {
		t.Helper()
		back, first, e := System(s.Functor, must(Equations(s)))
		if e != api.OK || !system.Same(back, s) || !slices.Equal(first, numbers(len(s.Next))) {
			t.Fatalf("error %d, %v, %s", e, first, written(s))
		}
	}
	d := sample.Dice(4)
	for _, f := range functors {
		for i := range 40 {
			expectBack(d.System(f, 1+i%15))
		}
		expectBack(d.System(f, api.MaxStates))
	}
	expectBack(of(coins))
	expectBack(setsOfStates())
}

// numbers returns the numbers from 0 to n - 1.
func numbers(n int) []int {
	l := make([]int, n)
	for i := range l {
		l[i] = i
	}
	return l
}

// applied returns the equation terms, in which each variable that stands for an equation is replaced by the closed term for it, and false if one of them is no valid term then.
func applied(f string, l, terms []api.Term) ([]api.Term, bool) {
	var results []api.Term
	texts := words(f, terms...)
	for _, text := range words(f, l...) {
		text = sample.Replaced(text, func(k, around int) string {
			if k < around {
				return fmt.Sprint("#", k)
			}
			return texts[k-around]
		})
		x, e := term.Parse(typed(f), text)
		if e != api.OK {
			return nil, false
		}
		results = append(results, x)
	}
	return results, true
}

// allAlike reports whether the terms of two lists describe the same behaviors. It is not known if one of them has too many recursions for a system.
func allAlike(f string, l, m []api.Term) (are, known bool) {
	are = true
	for i, x := range l {
		s, e := term.System(typed(f), x)
		if e != api.OK {
			return false, false
		}
		is, known := alike(s, 0, m[i])
		if !known {
			return false, false
		}
		are = are && is
	}
	return are, true
}

// TestSalomaa checks P11.6: closed terms that behave like the equations in which they stand for the equations behave like the solutions, and the other way round.
func TestSalomaa(t *testing.T) {
	fitting, others, rewritten := 0, 0, 0
	equationLists(40, 3, 3, func(d *sample.Dice, f string, l []api.Term) {
		solutions, e := Solve(typed(f), l)
		if e != api.OK {
			return
		}
		for range 6 {
			terms := candidates(d, f, l, solutions)
			results, ok := applied(f, l, terms)
			if !ok {
				continue
			}
			fit, known := allAlike(f, terms, results)
			solve, alsoKnown := allAlike(f, terms, solutions)
			if !known || !alsoKnown {
				continue
			}
			if fit != solve {
				t.Fatalf("%s: %q: %q fit: %v, behave like the solutions %q: %v", f, words(f, l...), words(f, terms...), fit, words(f, solutions...), solve)
			}
			if !fit {
				others++
			} else if fitting++; !slices.EqualFunc(terms, solutions, term.Same) {
				rewritten++
			}
		}
	})
	if fitting < 1000 || others < 500 || rewritten < 500 {
		t.Errorf("%d lists of terms fit, %d of them are not the solutions, %d do not fit", fitting, rewritten, others)
	}
}

// candidates returns a term for each equation: its solution, or another term that describes the same behavior, or, seldom, any other one.
func candidates(d *sample.Dice, f string, l, solutions []api.Term) []api.Term {
	s, first, e := System(typed(f), l)
	m, classes, _ := equiv.Minimal(must(s, e))
	terms := slices.Clone(solutions)
	for i := range terms {
		switch d.Below(6) {
		case 0, 1:
			if p, e := term.Step(typed(f), solutions[i]); e == api.OK {
				terms[i] = api.Term{Body: []api.Part{p}}
			}
		case 2, 3:
			if x, e := Of(m, classes[first[i]]); e == api.OK {
				terms[i] = x
			}
		case 4:
			terms[i] = d.Term(typed(f), 1+d.Below(3))
		}
	}
	return terms
}
