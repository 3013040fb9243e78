package fix

import (
	"fmt"
	"math"
	"slices"
	"strings"
	"testing"

	"ectype/api"
	"ectype/logic"
	"ectype/sample"
)

func TestDual(t *testing.T) {
	const f = "2 * P(X)"
	for _, c := range []struct{ is, want string }{
		{"V0", "not not V0"},
		{"top", "not top"},
		{"not not V0", "not not not not V0"},
		{"(V0 and V0)", "not (not V0 and not V0)"},
		{"step second some at V0", "not step second some at not V0"},
		{"not step second some at not V0", "not not step second some at not not V0"},
		{"(step first is 1 and not step second not some at V0)", "not (step first is 1 and not step second not some at not V0)"},
	} {
		l := []api.Equation{least(f, c.is), greatest(f, c.is), least(f, "(V1 and V2)")}
		got := must(Dual(typed(f), l))
		if want := "greatest " + c.want + "; least " + c.want + "; greatest not (not V1 and not V2)"; allWords(typed(f), got) != want {
			t.Errorf("%s: %s", c.is, allWords(typed(f), got))
		}
	}
	if got := allWords(automaton.Functor, must(Dual(automaton.Functor, often()))); got != "least not not V1; greatest not not (not (step first is 1 and step second input 0 at not V0) and not step second input 0 at not V1)" {
		t.Error(got)
	}
}

// TestDualByDefinition compares the strings of Dual with those of the equations, in which variables are negated.
func TestDualByDefinition(t *testing.T) {
	negated := strings.NewReplacer("V", "not V", "least ", "greatest not ", "greatest ", "least not ")
	samples(50, 1, 14, 4, func(d *sample.Dice, s api.System, l []api.Equation) {
		dual := must(Dual(s.Functor, l))
		if e := Check(s.Functor, dual); e != api.OK {
			t.Fatalf("%v: error %d", dual, e)
		}
		if got, want := allWords(s.Functor, dual), negated.Replace(allWords(s.Functor, l)); got != want {
			t.Fatalf("%s, not %s", got, want)
		}
	})
}

// TestLargestDual checks that Dual returns equations up to the largest ones.
func TestLargestDual(t *testing.T) {
	deep := api.Formula{}
	for range 49 {
		deep = step(at(deep))
	}
	for _, c := range []struct {
		l    []api.Equation
		want api.Errno
	}{
		{[]api.Equation{alone(ands(1999, api.Formula{}))}, api.OK},                          // 2000 nodes
		{[]api.Equation{alone(nots(1, ands(1999, api.Formula{})))}, api.ErrLarge},           // 2001
		{[]api.Equation{alone(ands(1331, v(0))), alone(api.Formula{})}, api.OK},             // 1998 and 2
		{[]api.Equation{alone(ands(1331, v(0))), alone(step(api.Formula{}))}, api.ErrLarge}, // 1998 and 3
		{[]api.Equation{alone(ands(1333, v(0)))}, api.ErrLarge},                             // 2001
		{[]api.Equation{alone(ands(499, v(0))), alone(ands(499, v(0))), alone(ands(331, v(0)))}, api.OK},
		{[]api.Equation{alone(ands(499, v(0))), alone(ands(499, v(0))), alone(ands(335, v(0)))}, api.ErrLarge},
		{[]api.Equation{alone(deep)}, api.OK},                                         // a depth of 100
		{[]api.Equation{alone(nots(1, deep))}, api.ErrLarge},                          // 101
		{[]api.Equation{alone(nots(96, both(v(0), v(0))))}, api.OK},                   // 98 + 2
		{[]api.Equation{alone(nots(98, v(0)))}, api.ErrLarge},                         // 99 + 2
		{[]api.Equation{alone(nots(96, both(nots(1, api.Formula{}), v(0))))}, api.OK}, // 99 + 1, without that of the variable
		{[]api.Equation{alone(v(0)), alone(step(at(nots(96, v(1)))))}, api.ErrLarge},  // 99 + 2
	} {
		l, e := Dual(typed("X"), c.l)
		if e != c.want || e == api.OK && Check(typed("X"), l) != api.OK || e != api.OK && len(l) > 0 {
			t.Errorf("%.100q: error %d, not %d", fmt.Sprint(c.l), e, c.want)
		}
	}
}

func TestRounds(t *testing.T) {
	const f = "2 * P(X)"
	l := []api.Equation{greatest(f, "(step second some at V0 and V1)"), least(f, "not (not step first is 1 and not V1)"), greatest(f, "step first is 0"), least(f, "V2")}
	for k, want := range []string{
		"top; not top; top; not top",
		"(step second some at top and not top); not (not step first is 1 and not not top); step first is 0; top",
		"(step second some at (step second some at top and not top) and not (not step first is 1 and not not top)); not (not step first is 1 and not not (not step first is 1 and not not top)); step first is 0; step first is 0",
	} {
		var got []string
		for _, a := range must(Rounds(typed(f), l, k)) {
			got = append(got, must(logic.String(typed(f), a)))
		}
		if strings.Join(got, "; ") != want {
			t.Errorf("round %d: %q, not %q", k, got, want)
		}
	}
}

// size returns the number of nodes of a and its depth, if its variables are formulas with these.
func size(a api.Formula, ofVariables [][2]int) [2]int {
	if a.Op == api.LVar {
		return ofVariables[a.N]
	}
	s := [2]int{1, 1}
	for _, b := range a.Args {
		part := size(b, ofVariables)
		s[0], s[1] = s[0]+part[0], max(s[1], part[1]+1)
	}
	return s
}

// TestRoundsByDefinition compares the strings of each round with those of the equations, in which those of the last round stand for the variables.
func TestRoundsByDefinition(t *testing.T) {
	count := map[api.Errno]int{}
	samples(16, 1, 14, 4, func(d *sample.Dice, s api.System, l []api.Equation) {
		var round []string
		var sizes [][2]int
		for _, q := range l {
			round = append(round, map[bool]string{false: "not top", true: "top"}[q.Greatest])
			sizes = append(sizes, map[bool][2]int{false: {2, 2}, true: {1, 1}}[q.Greatest])
		}
		for k := range 9 {
			got, e := Rounds(s.Functor, l, k)
			count[e]++
			isLarge := slices.ContainsFunc(sizes, func(n [2]int) bool { return n[0] > 2000 || n[1] > 100 })
			if isLarge != (e == api.ErrLarge) || isLarge && len(got) > 0 {
				t.Fatalf("%s: round %d: error %d for formulas of the sizes %v", allWords(s.Functor, l), k, e, sizes)
			}
			var pairs, next []string
			var nextSizes [][2]int
			for i, a := range got {
				if text := must(logic.String(s.Functor, a)); text != round[i] {
					t.Fatalf("%s: round %d: %s, not %s", allWords(s.Functor, l), k, text, round[i])
				}
			}
			if isLarge && slices.ContainsFunc(sizes, func(n [2]int) bool { return n[0] > 20000 }) {
				break
			}
			for i, text := range round {
				pairs = append(pairs, fmt.Sprintf("V%d", i), text)
			}
			for _, q := range l {
				next = append(next, strings.NewReplacer(pairs...).Replace(words(s.Functor, q.Body)))
				nextSizes = append(nextSizes, size(q.Body, sizes))
			}
			round, sizes = next, nextSizes
		}
	})
	if count[api.OK] < 1000 || count[api.ErrLarge] < 30 {
		t.Errorf("%v", count)
	}
}

func TestManyRounds(t *testing.T) {
	f := typed("X")
	a := must(Rounds(f, []api.Equation{alone(v(0)), {Greatest: true, Body: v(1)}}, 100))
	if len(a) != 2 || !logic.Same(a[0], nots(1, api.Formula{})) || !logic.Same(a[1], api.Formula{}) {
		t.Errorf("%v", a)
	}
	doubled := []api.Equation{alone(both(v(0), v(0)))}
	for _, k := range []int{10, 11, 100} {
		l, e := Rounds(f, doubled, k)
		if want := map[bool]api.Errno{true: api.ErrLarge}[k > 9]; e != want || e != api.OK && len(l) > 0 {
			t.Errorf("round %d: %d, not %d", k, e, want)
		}
	}
	wide := []api.Equation{alone(ands(499, v(0))), alone(ands(499, v(1))), alone(ands(499, v(0))), alone(ands(503, v(2)))}
	if l, e := Rounds(f, wide, 100); e != api.ErrLarge || len(l) > 0 {
		t.Errorf("%d formulas: error %d", len(l), e)
	}
}

// TestLargestRounds checks that each formula may have as many nodes and be as deep as formulas may, whatever the sum of all and the rounds before.
func TestLargestRounds(t *testing.T) {
	f := typed("X")
	top := api.Formula{}
	deep := top
	for range 49 {
		deep = step(at(deep))
	}
	for _, c := range []struct {
		l    []api.Equation
		k    int
		want api.Errno
	}{
		{[]api.Equation{{Greatest: true, Body: ands(1999, v(0))}}, 1, api.OK},
		{[]api.Equation{{Greatest: true, Body: nots(2, ands(1997, v(0)))}}, 1, api.OK},
		{[]api.Equation{{Greatest: true, Body: ands(1999, v(0))}}, 2, api.ErrLarge},
		{[]api.Equation{alone(ands(1333, v(0)))}, 1, api.OK}, // 666 + 2 * 667 nodes
		{[]api.Equation{alone(ands(1335, v(0)))}, 1, api.ErrLarge},
		{[]api.Equation{alone(ands(1331, v(0))), alone(v(0)), alone(v(0)), alone(v(0))}, 2, api.ErrLarge},
		{[]api.Equation{alone(v(1)), alone(v(2)), alone(v(3)), alone(ands(1333, v(3)))}, 1, api.OK},
		{[]api.Equation{{Greatest: true, Body: v(1)}, {Greatest: true, Body: ands(1997, v(2))}, {Greatest: true, Body: v(2)}}, 2, api.OK},
		{[]api.Equation{{Greatest: true, Body: step(at(v(0)))}}, 49, api.OK},
		{[]api.Equation{{Greatest: true, Body: step(at(v(0)))}}, 50, api.ErrLarge},
		{[]api.Equation{alone(step(at(v(0))))}, 49, api.OK},
		{[]api.Equation{alone(step(at(nots(2, v(0)))))}, 24, api.OK},
		{[]api.Equation{alone(nots(2, step(at(v(0)))))}, 25, api.ErrLarge},
		{[]api.Equation{alone(nots(1, deep)), alone(v(0))}, 0, api.OK},
		// In round 1 the first formula is too large, as V1 is `not top`; in round 2 V1 is `top`.
		{[]api.Equation{alone(ands(1999, v(1))), alone(top)}, 0, api.OK},
		{[]api.Equation{alone(ands(1999, v(1))), alone(top)}, 1, api.ErrLarge},
		{[]api.Equation{alone(ands(1999, v(1))), alone(top)}, 2, api.OK},
		{[]api.Equation{alone(ands(1999, v(1))), alone(top)}, 100, api.OK},
	} {
		l, e := Rounds(f, c.l, c.k)
		if e != c.want || e != api.OK && len(l) > 0 || e == api.OK && len(l) != len(c.l) {
			t.Errorf("%.100q: round %d: error %d, not %d", fmt.Sprint(c.l), c.k, e, c.want)
		}
		for _, a := range l {
			if logic.Check(f, a) != api.OK {
				t.Errorf("%.100q: round %d: no formula", fmt.Sprint(c.l), c.k)
			}
		}
	}
}

// everyText is the definition of e(F) of the chapter, in strings.
func everyText(f api.Functor, a string) string {
	part := func(i int) string { return everyText(f.Args[i], a) }
	switch f.Kind {
	case api.FId:
		return "at " + a
	case api.FConst:
		return "top"
	case api.FProd:
		return "(first " + part(0) + " and second " + part(1) + ")"
	case api.FSum:
		return "not (not left " + part(0) + " and not right " + part(1) + ")"
	case api.FPow:
		return "not some not " + part(0)
	case api.FBag:
		return "not many 1 not " + part(0)
	case api.FDist:
		return "share 1 / 1 " + part(0)
	}
	text := "input 0 " + part(0)
	for i := 1; i < f.N; i++ {
		text = fmt.Sprintf("(%s and input %d %s)", text, i, part(0))
	}
	return text
}

func TestEvery(t *testing.T) {
	for _, c := range []struct{ f, want string }{
		{"X", "step at A"}, {"3", "step top"}, {"2 * X", "step (first top and second at A)"}, {"X + 2", "step not (not left at A and not right top)"},
		{"X ^ 1", "step input 0 at A"}, {"X ^ 2", "step (input 0 at A and input 1 at A)"},
		{"X ^ 4", "step (((input 0 at A and input 1 at A) and input 2 at A) and input 3 at A)"},
		{"P(X)", "step not some not at A"}, {"B(X)", "step not many 1 not at A"}, {"D(X)", "step share 1 / 1 at A"},
		{"2 * D(X)", "step (first top and second share 1 / 1 at A)"},
		{"P(1 + X)", "step not some not not (not left top and not right at A)"},
	} {
		f := typed(c.f)
		for _, a := range []string{"top", "not top", "step top", "(top and not step top)"} {
			got := must(logic.String(f, must(Every(f, must(logic.Parse(f, a))))))
			if want := strings.ReplaceAll(c.want, "A", a); got != want {
				t.Errorf("%s: %s, not %s", c.f, got, want)
			}
		}
	}
}

// TestOperatorsByDefinition compares the strings of Every, Always and Possible with their definitions.
func TestOperatorsByDefinition(t *testing.T) {
	d := sample.Dice(6)
	for _, text := range append(functors, "X ^ 4", "(X * X) ^ 3", "((X ^ 2) ^ 2) ^ 2", "P(B(D(X + X)))", "1 * (2 + (3 * (X + X ^ 2)))") {
		f := typed(text)
		for i := range 20 {
			formula := d.Formula(f, 1+i%8)
			a := must(logic.String(f, formula))
			if got, want := must(logic.String(f, must(Every(f, formula)))), "step "+everyText(f, a); got != want {
				t.Errorf("%s: %s, not %s", text, got, want)
			}
			always, possible := must(Always(f, formula)), must(Possible(f, formula))
			if got, want := allWords(f, always), "greatest ("+a+" and step "+everyText(f, "V0")+")"; got != want {
				t.Errorf("%s: %s, not %s", text, got, want)
			}
			if got, want := allWords(f, possible), "least not (not "+a+" and step "+everyText(f, "not V0")+")"; got != want {
				t.Errorf("%s: %s, not %s", text, got, want)
			}
			if Check(f, always) != api.OK || Check(f, possible) != api.OK {
				t.Errorf("%s: %s and %s are no equations", text, allWords(f, always), allWords(f, possible))
			}
		}
	}
}

// TestLargestOperators checks that Every, Always and Possible return formulas and equations up to the largest ones.
func TestLargestOperators(t *testing.T) {
	top := api.Formula{}
	deep := func(depth int) api.Formula { return nots(depth-1, top) }
	large, none := api.ErrLarge, api.OK
	for _, c := range []struct {
		f                       string
		a                       api.Formula
		every, always, possible api.Errno
	}{
		{"X", ands(1997, top), none, large, large},
		{"X", nots(1, ands(1997, top)), none, large, large},              // 1998 + 2
		{"X", ands(1999, top), large, large, large},                      // 1999 + 2
		{"X", nots(1, ands(1995, top)), none, none, large},               // 1 + 1996 + 3
		{"X", ands(1997, top), none, large, large},                       // 1 + 1997 + 3
		{"X", ands(1993, top), none, none, none},                         // 3 + 1993 + 4
		{"X", nots(1, ands(1993, top)), none, none, large},               // 3 + 1994 + 4
		{"3", ands(1999, top), none, large, large},                       // step top
		{"X", deep(98), none, none, large},                               // 2 + 98, 1 + 98, 3 + 98
		{"X", deep(97), none, none, none},                                // 3 + 97
		{"X", deep(99), large, none, large},                              // 1 + 99
		{"X", deep(100), large, large, large},                            //
		{"3", deep(100), none, large, large},                             // step top
		{"2 * X", deep(96), none, none, none},                            // step (.. and second at ..)
		{"2 * X", deep(97), large, none, none},                           //
		{"X ^ 4", ands(495, top), none, none, none},                      // 1 + 3 + 4 * 2 + 4 * 495 = 1992
		{"X ^ 4", ands(497, top), none, none, none},                      // 2000
		{"X ^ 4", nots(1, ands(497, top)), large, none, none},            // 2004
		{"((X ^ 4) ^ 4) ^ 4", top, none, none, none},                     // 1 + 63 + 84 + 64 + 64 nodes
		{"((X ^ 4) ^ 4) ^ 4", ands(27, top), none, none, none},           // 212 + 64 * 27 = 1940
		{"((X ^ 4) ^ 4) ^ 4", nots(1, ands(27, top)), large, none, none}, // 2004
		{"((((((X ^ 4) ^ 4) ^ 4) ^ 4) ^ 4) ^ 4) ^ 4", top, large, large, large},
		{"((((((2 ^ 4) ^ 4) ^ 4) ^ 4) ^ 4) ^ 4) ^ 4", top, large, large, large},
	} {
		f := typed(c.f)
		a, e := Every(f, c.a)
		if e != c.every || e != api.OK && !isZero(a) || e == api.OK && logic.Check(f, a) != api.OK {
			n, depth, _ := logic.Size(c.a)
			t.Errorf("%s: Every of %d nodes, depth %d: error %d, not %d", c.f, n, depth, e, c.every)
		}
		for i, make := range []func(api.Functor, api.Formula) ([]api.Equation, api.Errno){Always, Possible} {
			want := [2]api.Errno{c.always, c.possible}[i]
			l, e := make(f, c.a)
			if e != want || e != api.OK && len(l) > 0 || e == api.OK && (len(l) != 1 || Check(f, l) != api.OK) {
				n, depth, _ := logic.Size(c.a)
				t.Errorf("%s: equation %d of %d nodes, depth %d: error %d, not %d", c.f, i, n, depth, e, want)
			}
		}
	}
}

// isZero reports whether a formula has no fields.
func isZero(a api.Formula) bool {
	return a.Op == 0 && a.N == 0 && a.M == 0 && len(a.Args) == 0
}

// TestFormErrors checks which error is returned if several apply.
func TestFormErrors(t *testing.T) {
	good, bad := typed("P(X)"), api.Functor{Kind: api.FPow}
	equations, none := []api.Equation{alone(both(v(0), v(0)))}, []api.Equation{alone(v(1))}
	for _, c := range []struct {
		f    api.Functor
		l    []api.Equation
		k    int
		want api.Errno
	}{
		{bad, none, -1, api.ErrFunctor}, {bad, equations, 1, api.ErrFunctor}, {bad, nil, 0, api.ErrFunctor}, {bad, equations, 101, api.ErrFunctor},
		{good, none, -1, api.ErrEquations}, {good, nil, 0, api.ErrEquations}, {good, none, 101, api.ErrEquations}, {good, none, 100, api.ErrEquations},
		{good, equations, -1, api.ErrArg}, {good, equations, 101, api.ErrArg}, {good, equations, math.MaxInt, api.ErrArg}, {good, equations, math.MinInt, api.ErrArg},
		{good, equations, 100, api.ErrLarge}, {good, equations, 0, api.OK}, {good, equations, 1, api.OK},
	} {
		if l, e := Rounds(c.f, c.l, c.k); e != c.want || e != api.OK && len(l) > 0 {
			t.Errorf("Rounds: %v: %v %d, not %d", c, l, e, c.want)
		}
		if c.want != api.ErrFunctor && c.want != api.ErrEquations {
			continue
		}
		if l, e := Dual(c.f, c.l); e != c.want || len(l) > 0 {
			t.Errorf("Dual: %v: %v %d, not %d", c, l, e, c.want)
		}
	}
}

// TestOperatorErrors checks that Every, Always and Possible take formulas without variables only.
func TestOperatorErrors(t *testing.T) {
	good, bad := typed("P(X)"), api.Functor{Kind: api.FPow}
	some := api.Formula{Op: api.LSome, Args: []api.Formula{at(api.Formula{})}}
	for _, a := range []api.Formula{
		v(0), nots(2, v(0)), step(api.Formula{Op: api.LSome, Args: []api.Formula{at(v(0))}}), some, step(at(api.Formula{})), {Op: -1}, {Op: api.LNot}, {N: 1}, {M: 1},
		nots(100, api.Formula{}), ands(2001, api.Formula{}), both(step(some), v(0)),
	} {
		for f, want := range map[*api.Functor]api.Errno{&good: api.ErrFormula, &bad: api.ErrFunctor} {
			if b, e := Every(*f, a); e != want || !isZero(b) {
				t.Errorf("Every of %.100q: %v %d", fmt.Sprint(a), b, e)
			}
			if l, e := Always(*f, a); e != want || len(l) > 0 {
				t.Errorf("Always of %.100q: %v %d", fmt.Sprint(a), l, e)
			}
			if l, e := Possible(*f, a); e != want || len(l) > 0 {
				t.Errorf("Possible of %.100q: %v %d", fmt.Sprint(a), l, e)
			}
		}
	}
	if _, e := Every(bad, api.Formula{}); e != api.ErrFunctor {
		t.Errorf("error %d", e)
	}
	if !slices.Equal([]int{0}, reached(states("3", "0"), 0)) {
		t.Error("a constant has successors")
	}
}
