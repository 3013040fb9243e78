package fix

import (
	"math"
	"testing"

	"ectype/api"
	"ectype/logic"
	"ectype/sample"
)

// v is a variable; step and at make formulas about states and values of X.
func v(n int) api.Formula               { return api.Formula{Op: api.LVar, N: n} }
func step(a api.Formula) api.Formula    { return api.Formula{Op: api.LStep, Args: []api.Formula{a}} }
func at(a api.Formula) api.Formula      { return api.Formula{Op: api.LState, Args: []api.Formula{a}} }
func both(a, b api.Formula) api.Formula { return api.Formula{Op: api.LAnd, Args: []api.Formula{a, b}} }

// alone returns a formula as the Body of an equation.
func alone(a api.Formula) api.Equation { return api.Equation{Body: a} }

func TestCheck(t *testing.T) {
	for _, c := range []struct {
		f, text string
	}{
		{"X", "V0"}, {"X", "top"}, {"X", "(V0 and V0)"}, {"X", "step at V0"}, {"X", "(step at step at V0 and not top)"},
		{"2 * X", "(step first is 1 and step second at V0)"}, {"X * X", "step (first at V0 and second at V0)"},
		{"1 + X", "step not (not left is 0 and not right at V0)"}, {"X ^ 2", "step (input 0 at V0 and input 1 at V0)"},
		{"P(X)", "step not some not at V0"}, {"P(P(X))", "step some not some at not V0"}, {"B(X)", "step not many 2 at not V0"},
		{"D(X)", "step share 1 / 3 at V0"}, {"3", "step is 2"},
	} {
		expect(t, c.f, api.OK, least(c.f, c.text))
		expect(t, c.f, api.OK, greatest(c.f, c.text))
		expect(t, c.f, api.ErrEquations, alone(both(body(c.f, c.text), nots(1, v(0)))))
	}
	expect(t, "X", api.ErrEquations, alone(body("P(X)", "step some at V0")))
	expect(t, "P(X)", api.ErrEquations, alone(body("X", "step at V0")))
	expect(t, "X", api.ErrEquations, alone(at(v(0))))
	expect(t, "3", api.ErrEquations, alone(step(api.Formula{Op: api.LIs, N: 3})))
}

func TestCheckNumberOfEquations(t *testing.T) {
	top := alone(api.Formula{})
	expect(t, "X", api.ErrEquations)
	expect(t, "X", api.OK, top)
	expect(t, "X", api.OK, top, top, top, top)
	expect(t, "X", api.ErrEquations, top, top, top, top, top)
	expect(t, "X", api.ErrEquations, make([]api.Equation, 1<<20)...)
	if e := Check(typed("X"), []api.Equation{}); e != api.ErrEquations {
		t.Errorf("error %d", e)
	}
}

// TestCheckVariables checks that a variable has a number of its own, and no other fields.
func TestCheckVariables(t *testing.T) {
	for many := 1; many <= 4; many++ {
		l := make([]api.Equation, many)
		for k := range l {
			for n := range many {
				l[k] = alone(step(at(v(n))))
				expect(t, "X", api.OK, l...)
			}
			for _, n := range []int{-1, many, many + 1, math.MaxInt, math.MinInt, 1 << 32, 256} {
				l[k] = alone(v(n))
				expect(t, "X", api.ErrEquations, l...)
				l[k] = alone(step(at(v(n))))
				expect(t, "X", api.ErrEquations, l...)
			}
			l[k] = alone(v(0))
		}
	}
	for _, a := range []api.Formula{
		{Op: api.LVar, M: 1}, {Op: api.LVar, M: -1}, {Op: api.LVar, Args: []api.Formula{{}}}, {Op: api.LVar, Args: []api.Formula{v(0)}},
		{Op: api.LVar + 1}, {Op: -1}, {Op: math.MaxInt}, {Op: math.MinInt}, {Op: api.LTop, N: 1},
	} {
		expect(t, "X", api.ErrEquations, alone(a))
		expect(t, "X", api.ErrEquations, alone(step(at(a))))
		expect(t, "X", api.ErrEquations, alone(both(v(0), a)))
	}
	expect(t, "X", api.OK, alone(api.Formula{Op: api.LVar, Args: []api.Formula{}}))
}

// TestCheckSorts checks that variables are formulas about states only.
func TestCheckSorts(t *testing.T) {
	for _, f := range []string{"X", "3", "P(X)"} {
		expect(t, f, api.ErrEquations, alone(step(v(0))))
		expect(t, f, api.ErrEquations, alone(step(nots(2, v(0)))))
		expect(t, f, api.ErrEquations, alone(step(both(api.Formula{}, v(0)))))
		expect(t, f, api.ErrEquations, alone(both(v(0), step(v(0)))))
	}
	expect(t, "X", api.ErrEquations, alone(step(at(step(v(0))))))
	expect(t, "X", api.OK, alone(step(at(step(at(v(0)))))))
	expect(t, "X", api.OK, alone(step(both(at(v(0)), at(both(v(0), v(0)))))))
	for op, f := range map[int]string{api.LFirst: "X * 2", api.LRight: "2 + X", api.LAt: "X ^ 3", api.LSome: "P(X)"} {
		expect(t, f, api.ErrEquations, alone(step(api.Formula{Op: op, Args: []api.Formula{v(0)}})))
		expect(t, f, api.OK, alone(step(api.Formula{Op: op, Args: []api.Formula{{}}})))
	}
}

// TestCheckNots checks that each variable is below an even number of LNot, wherever these are.
func TestCheckNots(t *testing.T) {
	for many := range 8 {
		for within := range many + 1 {
			want := api.OK
			if many%2 == 1 {
				want = api.ErrEquations
			}
			expect(t, "X", want, alone(nots(many, v(0))))
			expect(t, "X", want, alone(nots(many-within, step(at(nots(within, v(0)))))))
			expect(t, "X", want, alone(nots(many-within, step(nots(within, at(v(0)))))))
			expect(t, "X", want, alone(nots(many-within, both(api.Formula{}, nots(within, v(0))))), alone(v(1)))
		}
	}
	expect(t, "X", api.OK, alone(nots(1, both(nots(1, v(0)), nots(3, v(1))))), alone(nots(1, step(at(api.Formula{})))))
	expect(t, "X", api.ErrEquations, alone(nots(1, both(nots(1, v(0)), nots(2, v(1))))), alone(v(0)))
	expect(t, "X", api.ErrEquations, alone(v(0)), alone(nots(1, v(0))))
	expect(t, "X", api.ErrEquations, alone(nots(1, v(1))), alone(v(0)))
}

// TestCheckSizes checks that the nodes of all Bodies are counted, and the depth of each of them.
func TestCheckSizes(t *testing.T) {
	for _, leaf := range []api.Formula{{}, v(0)} {
		expect(t, "X", api.OK, alone(ands(1999, leaf)))
		expect(t, "X", api.OK, alone(ands(1999, leaf)), alone(leaf))
		expect(t, "X", api.OK, alone(leaf), alone(ands(1999, leaf)))
		expect(t, "X", api.OK, alone(ands(499, leaf)), alone(ands(499, leaf)), alone(ands(499, leaf)), alone(ands(503, leaf)))
		expect(t, "X", api.ErrEquations, alone(ands(2001, leaf)))
		expect(t, "X", api.ErrEquations, alone(ands(1999, leaf)), alone(leaf), alone(leaf))
		expect(t, "X", api.ErrEquations, alone(leaf), alone(leaf), alone(ands(1999, leaf)))
		expect(t, "X", api.ErrEquations, alone(ands(1001, leaf)), alone(ands(1001, leaf)))
		expect(t, "X", api.ErrEquations, alone(ands(499, leaf)), alone(ands(501, leaf)), alone(ands(499, leaf)), alone(ands(503, leaf)))
		deep := leaf
		for range 49 {
			deep = step(at(deep))
		}
		expect(t, "X", api.OK, alone(deep), alone(deep), alone(deep), alone(deep))
		expect(t, "X", api.OK, alone(step(at(nots(96, leaf)))), alone(leaf))
		expect(t, "X", api.OK, alone(both(deep, deep)))
		expect(t, "X", api.ErrEquations, alone(step(at(deep))))
		expect(t, "X", api.ErrEquations, alone(leaf), alone(step(at(nots(98, leaf)))))
		expect(t, "X", api.ErrEquations, alone(both(leaf, both(leaf, deep))))
	}
	expect(t, "X", api.OK, alone(nots(98, v(0))))
	expect(t, "X", api.ErrEquations, alone(nots(100, v(0))))
}

// TestCheckHugeTrees checks that Check gives up early.
func TestCheckHugeTrees(t *testing.T) {
	many := make([]api.Formula, 1<<20)
	for _, op := range []int{api.LTop, api.LAnd, api.LNot, api.LVar, 77} {
		expect(t, "X", api.ErrEquations, alone(api.Formula{Op: op, Args: many}))
	}
	doubled := v(0)
	for range 98 {
		doubled = both(doubled, doubled)
	}
	expect(t, "X", api.ErrEquations, alone(doubled))
	expect(t, "X", api.ErrEquations, alone(nots(50000, v(0))))
	s := states("X", "0")
	if l, e := Solve(s, []api.Equation{alone(doubled)}); e != api.ErrEquations || len(l) > 0 {
		t.Errorf("%v %d", l, e)
	}
}

func TestFunctorsThatAreNone(t *testing.T) {
	good := []api.Equation{alone(v(0))}
	for _, f := range []api.Functor{{Kind: -1}, {Kind: api.FConst}, {Kind: api.FPow}, {Kind: api.FDist + 1, Args: []api.Functor{{}}}, {N: 1}} {
		for _, l := range [][]api.Equation{good, nil, {alone(v(7))}, {alone(step(v(0)))}} {
			if e := Check(f, l); e != api.ErrFunctor {
				t.Errorf("%v: %v: error %d", f, l, e)
			}
		}
	}
}

// variablesAreRight reports whether those in a have numbers of the equations and are below an even number of LNot.
func variablesAreRight(a api.Formula, equations int, negative bool) bool {
	if a.Op == api.LVar {
		return !negative && a.N >= 0 && a.N < equations && a.M == 0 && len(a.Args) == 0
	}
	for _, b := range a.Args {
		if !variablesAreRight(b, equations, negative != (a.Op == api.LNot)) {
			return false
		}
	}
	return true
}

// TestCheckByDefinition compares Check with the definition, for equations with and without a few changes.
func TestCheckByDefinition(t *testing.T) {
	count := map[api.Errno]int{}
	wrong := 0
	samples(400, 1, 10, 4, func(d *sample.Dice, s api.System, l []api.Equation) {
		for range d.Below(4) {
			k := d.Below(len(l))
			l[k].Body = d.Changed(l[k].Body)
		}
		areFormulas, areRight := true, true
		for _, q := range l {
			// Where a variable stands there could be this formula, which cannot be about values.
			plain := with(q.Body, func(int) api.Formula { return step(api.Formula{}) })
			areFormulas = areFormulas && logic.Check(s.Functor, plain) == api.OK
			areRight = areRight && variablesAreRight(q.Body, len(l), false)
		}
		want := api.OK
		if !areFormulas || !areRight {
			want = api.ErrEquations
		}
		count[want]++
		if areFormulas && !areRight {
			wrong++
		}
		if e := Check(s.Functor, l); e != want {
			t.Fatalf("%v: %v: error %d, not %d", s.Functor, l, e, want)
		}
	})
	if count[api.OK] < 3000 || count[api.ErrEquations] < 3000 || wrong < 300 {
		t.Errorf("%v, only variables are wrong in %d", count, wrong)
	}
}
