package kleene

import (
	"fmt"
	"math"
	"testing"

	"ectype/api"
	"ectype/sample"
	"ectype/term"
)

// expect checks which error Solve and System return for a list, with zero values next to it.
func expect(t *testing.T, want api.Errno, name string, f api.Functor, l []api.Term) {
	t.Helper()
	solutions, solve := Solve(f, l)
	s, first, e := System(f, l)
	if solve != want || e != want {
		t.Errorf("%s: errors %d and %d, not %d", name, solve, e, want)
	}
	if want != api.OK && (len(solutions) > 0 || len(first) > 0 || !isZeroSystem(s)) {
		t.Errorf("%s: %d solutions, %v %v next to an error", name, len(solutions), s, first)
	}
	if want == api.OK && (len(solutions) != len(l) || len(first) != len(l)) {
		t.Errorf("%s: %d solutions, %v", name, len(solutions), first)
	}
}

func TestListsOfEquations(t *testing.T) {
	for name, c := range map[string]struct {
		f     string
		texts []string
		want  api.Errno
	}{
		"one equation":                         {"X", []string{"<#1>"}, api.OK},
		"its own recursion":                    {"X", []string{"<#0>"}, api.OK},
		"no equation 1":                        {"X", []string{"<#2>"}, api.ErrTerm},
		"two equations":                        {"X", []string{"<#2>", "<#1>"}, api.OK},
		"no equation 2":                        {"X", []string{"<#1>", "<#3>"}, api.ErrTerm},
		"none in the first one":                {"X", []string{"<#3>", "<#1>"}, api.ErrTerm},
		"three recursions":                     {"X", []string{"<<<#4>>>", "<#0>"}, api.OK},
		"no equation 2 below three recursions": {"X", []string{"<<<#5>>>", "<#0>"}, api.ErrTerm},
		"no equation 2 beside others":          {"P(X)", []string{"<{<{#2}>, #2}>", "<{<{#3}>, #3}>"}, api.ErrTerm},
		"a variable":                           {"X", []string{"#0"}, api.ErrTerm},
		"a variable as the second one":         {"X", []string{"<#2>", "#0"}, api.ErrTerm},
		"a wrong number":                       {"2", []string{"<1>", "<2>"}, api.ErrTerm},
		"a weight of 0":                        {"B(X)", []string{"<{#1 : 1, #1 : 0}>"}, api.ErrTerm},
		"a large weight":                       {"B(X)", []string{"<{#1 : 1048576}>"}, api.OK},
		"a larger sum of weights":              {"D(X)", []string{"<{#1 : 1048576, #0 : 1}>"}, api.ErrTerm},
		"an empty distribution":                {"D(X)", []string{"<{#1 : 1}>", "<{}>"}, api.ErrTerm},
		"common divisors":                      {"D(X)", []string{"<{#1 : 2, #1 : 4}>"}, api.OK},
		"many equations":                       {"X", times(100, "<#100>"), api.OK},
		"too many equations":                   {"X", times(101, "<#0>"), api.ErrTerm},
		"far too many equations":               {"X", times(1<<16, "<#0>"), api.ErrTerm},
		"no equation 100":                      {"X", times(100, "<#101>"), api.ErrTerm},
		"deep equations":                       {"X", times(100, "<"+chain(97, 97+1+99)+">"), api.ErrLarge},
		"a deep equation":                      {"X", []string{chain(100, 100)}, api.OK},
		"a deeper equation":                    {"X", []string{chain(101, 0)}, api.ErrTerm},
		"a deeper second equation":             {"X", []string{"<#0>", chain(101, 102)}, api.ErrTerm},
		"MaxTerm nodes":                        {"P(1)", []string{"<" + list(times(1998, "0")...) + ">"}, api.OK},
		"more nodes":                           {"P(1)", []string{"<" + list(times(1999, "0")...) + ">"}, api.ErrTerm},
		"more nodes in the second one":         {"P(X)", []string{"<{}>", "<" + list(times(1000, "#2")...) + ">"}, api.ErrTerm},
	} {
		expect(t, c.want, name, typed(c.f), open(c.f, c.texts...))
	}
	expect(t, api.ErrTerm, "nil", typed("X"), nil)
	expect(t, api.ErrTerm, "none", typed("X"), []api.Term{})
}

// TestInvalidTrees has lists with one tree that is no equation term.
func TestInvalidTrees(t *testing.T) {
	valid := rec(node(leaf(0)))
	for name, x := range map[string]api.Term{
		"the zero term":        {},
		"an empty body":        {Body: []api.Part{}},
		"two parts":            {Body: times(2, node(leaf(0)))},
		"a recursion's number": {Var: 1, Body: []api.Part{node(leaf(0))}},
		"a negative number":    {Var: -1, Body: []api.Part{node(leaf(0))}},
		"a part in its place":  rec(leaf(0)),
		"no term in it":        rec(node(number(0))),
		"a state":              rec(node(api.Part{N: 1, Terms: []api.Term{{}}})),
		"two terms":            rec(node(api.Part{Terms: []api.Term{{}, {}}})),
		"weights":              rec(api.Part{Args: []api.Part{leaf(0)}, Weights: []int{1}}),
		"an inner number":      rec(node(within(api.Term{Var: 1, Body: []api.Part{node()}}))),
	} {
		for _, l := range [][]api.Term{{x}, {x, valid}, {valid, x}, {valid, x, valid}} {
			expect(t, api.ErrTerm, name, typed("P(X)"), l)
		}
	}
	for _, k := range []int{-1, -2, 4, 100, math.MaxInt, math.MinInt, 1 << 32} {
		expect(t, api.ErrTerm, fmt.Sprint("variable ", k), typed("P(X)"), []api.Term{valid, rec(node(leaf(k))), valid})
		expect(t, api.ErrTerm, fmt.Sprint("variable ", k), typed("P(X)"), []api.Term{valid, {Var: k}, valid})
	}
	empty := api.Term{Body: []api.Part{{Args: []api.Part{}, Weights: []int{}, Terms: []api.Term{}}}}
	expect(t, api.OK, "empty lists", typed("P(X)"), []api.Term{empty, {Body: []api.Part{{Args: []api.Part{{Terms: []api.Term{{Var: 2, Body: []api.Part{}}}}}}}}})
}

// TestTreesThatShareMemory has trees with very many nodes, which are refused at once.
func TestTreesThatShareMemory(t *testing.T) {
	p := leaf(1)
	for range 60 {
		p = within(rec(node(times(50, p)...)))
	}
	expect(t, api.ErrTerm, "recursions", typed("P(X)"), []api.Term{rec(node()), p.Terms[0]})
	set := number(0)
	for range 7 {
		set = node(times(1000, set)...)
	}
	expect(t, api.ErrTerm, "sets", typed("P(P(P(P(P(P(P(2)))))))"), []api.Term{rec(set)})
}

// TestCheckByDefinition compares which lists are accepted with the definition, for terms that are changed a little: an equation term becomes a valid term
// if each of its variables that stands for an equation is replaced by one that refers to the recursion around it.
func TestCheckByDefinition(t *testing.T) {
	count := map[bool]int{}
	equationLists(60, 4, 3, func(d *sample.Dice, f string, l []api.Term) {
		i := d.Below(len(l))
		l[i] = d.ChangedTerm(l[i])
		want := true
		for _, x := range l {
			want = want && len(x.Body) > 0 && term.Check(typed(f), closed(x, len(l), 0)) == api.OK
		}
		_, solve := Solve(typed(f), l)
		_, _, e := System(typed(f), l)
		if (solve == api.ErrTerm) == want || (e == api.ErrTerm) == want {
			t.Fatalf("%s: %v: errors %d %d", f, l, solve, e)
		}
		count[want]++
	})
	if count[true] < 300 || count[false] < 300 {
		t.Errorf("%v", count)
	}
}

// closed returns t with the variable 0 in the place of each variable that stands for one of m equations, if there are so many recursions around it.
func closed(t api.Term, m, around int) api.Term {
	if len(t.Body) == 0 && t.Var >= around && t.Var < around+m {
		return api.Term{}
	}
	u := api.Term{Var: t.Var}
	for _, p := range t.Body {
		u.Body = append(u.Body, closedPart(p, m, around+1))
	}
	return u
}

func closedPart(p api.Part, m, around int) api.Part {
	q := api.Part{N: p.N, Weights: p.Weights}
	for _, a := range p.Args {
		q.Args = append(q.Args, closedPart(a, m, around))
	}
	for _, t := range p.Terms {
		q.Terms = append(q.Terms, closed(t, m, around))
	}
	return q
}

// invalidFunctors are no functors.
func invalidFunctors() []api.Functor {
	deep := typed("X")
	for range api.MaxHeight {
		deep = api.Functor{Kind: api.FPow, Args: []api.Functor{deep}}
	}
	return []api.Functor{{Kind: -1}, {Kind: 8}, {Kind: api.FConst}, {Kind: api.FPow}, {Args: []api.Functor{{}}}, {N: 1}, {Kind: api.FExp, N: 5, Args: []api.Functor{{}}}, deep}
}

// TestWhichError checks that ErrFunctor, or ErrSystem, comes before all other errors.
func TestWhichError(t *testing.T) {
	for _, f := range invalidFunctors() {
		for _, l := range [][]api.Term{nil, {{}}, {rec(leaf(0))}, {rec(leaf(9))}, {rec(node())}, times(101, rec(leaf(0)))} {
			expect(t, api.ErrFunctor, fmt.Sprint(f), f, l)
		}
		expectSystem(t, api.System{Functor: f})
		expectSystem(t, api.System{Functor: f, Next: []api.Value{{}}})
	}
	for _, next := range [][]api.Value{{{N: 1}}, {{N: -1}}, {{}, {N: 2}}, {{Weights: []int{1}}}, {{Args: []api.Value{{}}}}, make([]api.Value, 101)} {
		expectSystem(t, api.System{Functor: typed("X"), Next: next})
	}
	expectSystem(t, api.System{Functor: typed("P(X)"), Next: []api.Value{{Args: []api.Value{{}, {}}}}})
	expectSystem(t, api.System{Functor: typed("D(X)"), Next: []api.Value{{Args: []api.Value{{}}, Weights: []int{2}}}})
	for _, f := range functors {
		none := api.System{Functor: typed(f)}
		if l, e := Equations(none); e != api.ErrNone || len(l) > 0 {
			t.Errorf("%s: error %d", f, e)
		}
		for _, x := range []int{-1, 0, 1, math.MaxInt, math.MinInt} {
			if u, e := Of(none, x); e != api.ErrArg || !isZero(u) {
				t.Errorf("%s: %d: error %d", f, x, e)
			}
		}
	}
}

// expectSystem checks that Equations and Of return ErrSystem, whatever the state is.
func expectSystem(t *testing.T, s api.System) {
	t.Helper()
	if l, e := Equations(s); e != api.ErrSystem || len(l) > 0 {
		t.Errorf("%v: error %d", s, e)
	}
	for _, x := range []int{-1, 0, 1, 101} {
		if u, e := Of(s, x); e != api.ErrSystem || !isZero(u) {
			t.Errorf("%v: %d: error %d", s, x, e)
		}
	}
}
