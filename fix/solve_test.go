package fix

import (
	"fmt"
	"math"
	"slices"
	"strings"
	"testing"

	"ectype/api"
	"ectype/functor"
	"ectype/logic"
	"ectype/sample"
)

// expectSolution checks the solution of equations.
func expectSolution(t *testing.T, s api.System, l []api.Equation, want ...[]int) {
	t.Helper()
	if got, e := Solve(s, l); e != api.OK || !same(got, want) {
		t.Errorf("%s in %q: %v, not %v: error %d", allWords(s.Functor, l), written(s), got, want, e)
	}
}

// automaton is a system of 2 * X ^ 2, often the equations of the second example of the chapter.
var automaton = states("2 * X ^ 2", "(0, [1, 0])", "(1, [2, 1])", "(0, [1, 2])", "(1, [4, 3])", "(0, [4, 4])")

func often() []api.Equation {
	const a0, a1 = "step second input 0 at V0", "step second input 0 at V1"
	return []api.Equation{greatest("2 * X ^ 2", "V1"), least("2 * X ^ 2", "not (not (step first is 1 and "+a0+") and not "+a1+")")}
}

func TestExamples(t *testing.T) {
	s := of(coins)
	one := must(logic.Parse(s.Functor, "step first is 1"))
	expectSolution(t, s, must(Always(s.Functor, one)), []int{1, 2})
	expectSolution(t, s, must(Possible(s.Functor, one)), []int{0, 1, 2})
	expectSolution(t, automaton, often(), []int{0, 1, 2}, []int{0, 1, 2})
}

func TestOneEquation(t *testing.T) {
	const f = "2 * X"
	s := states(f, "(0, 1)", "(1, 2)", "(0, 3)", "(0, 2)", "(1, 4)")
	for _, c := range []struct {
		text            string
		least, greatest []int
	}{
		{"V0", nil, []int{0, 1, 2, 3, 4}},
		{"top", []int{0, 1, 2, 3, 4}, []int{0, 1, 2, 3, 4}},
		{"not top", nil, nil},
		{"step first is 1", []int{1, 4}, []int{1, 4}},
		{"step second at V0", nil, []int{0, 1, 2, 3, 4}},
		{"not (not step first is 1 and not step second at V0)", []int{0, 1, 4}, []int{0, 1, 2, 3, 4}},
		{"(step first is 1 and step second at V0)", nil, []int{4}},
		{"(step first is 0 and step second at V0)", nil, []int{2, 3}},
		{"not (not step first is 1 and not step second at step second at V0)", []int{1, 4}, []int{0, 1, 2, 3, 4}},
		{"not not V0", nil, []int{0, 1, 2, 3, 4}},
		{"(not step first is 1 and step second at not not V0)", nil, []int{2, 3}},
	} {
		expectSolution(t, s, []api.Equation{least(f, c.text)}, c.least)
		expectSolution(t, s, []api.Equation{greatest(f, c.text)}, c.greatest)
	}
}

// TestOrderOfEquations checks that the first equation is the outermost one: for ever some time, and some time for ever.
func TestOrderOfEquations(t *testing.T) {
	const f, some = "2 * P(X)", "not (not (step first is 1 and step second some at %s) and not step second some at %s)"
	// 0 and 1 see the output 1 again and again, 3 for ever; from 2 it is seen just once; 4 may choose; 5 never sees it.
	s := states(f, "(0, {1})", "(1, {0})", "(1, {5})", "(1, {3})", "(0, {0, 2, 5})", "(0, {5})")
	again := fmt.Sprintf(some, "V0", "V1")
	expectSolution(t, s, []api.Equation{greatest(f, "V1"), least(f, again)}, []int{0, 1, 3, 4}, []int{0, 1, 3, 4})
	expectSolution(t, s, []api.Equation{least(f, "V1"), greatest(f, again)}, []int{0, 1, 2, 3, 4, 5}, []int{0, 1, 2, 3, 4, 5})
	// The variables have changed their names: now it is the inner equation that goes on for ever.
	stay := fmt.Sprintf(some, "V1", "V0")
	expectSolution(t, s, []api.Equation{least(f, "V1"), greatest(f, stay)}, []int{3}, []int{3})
	expectSolution(t, s, []api.Equation{greatest(f, "V1"), greatest(f, stay)}, []int{0, 1, 2, 3, 4, 5}, []int{0, 1, 2, 3, 4, 5})
	expectSolution(t, s, []api.Equation{least(f, "V1"), least(f, again)}, nil, nil)
	// An inner equation may be the only one that matters.
	only := "(step first is 1 and step second some at V1)"
	expectSolution(t, s, []api.Equation{least(f, "top"), greatest(f, only), least(f, "not (not V1 and not step second some at V2)")}, []int{0, 1, 2, 3, 4, 5}, []int{3}, []int{3})
	// V0 waits for V1, which is greatest; as V0 is least and V1 needs it, both are empty; the other way round, V1 is full.
	expectSolution(t, s, []api.Equation{least(f, "V1"), greatest(f, "V0")}, nil, nil)
	expectSolution(t, s, []api.Equation{greatest(f, "V1"), least(f, "V0")}, []int{0, 1, 2, 3, 4, 5}, []int{0, 1, 2, 3, 4, 5})
	expectSolution(t, s, []api.Equation{least(f, "V2"), greatest(f, "V1"), greatest(f, "V0")}, nil, []int{0, 1, 2, 3, 4, 5}, nil)
}

func TestEachKindOfFunctor(t *testing.T) {
	for _, c := range []struct {
		f, text         string
		next            []string
		least, greatest []int
	}{
		{"X", "step at V0", []string{"1", "0"}, nil, []int{0, 1}},
		{"3", "not (not step is 2 and not V0)", []string{"0", "2", "1"}, []int{1}, []int{0, 1, 2}},
		{"1 + X", "step not (not left is 0 and not right at V0)", []string{"r 1", "l 0", "r 3", "r 2"}, []int{0, 1}, []int{0, 1, 2, 3}},
		{"X ^ 2", "step (input 0 at V0 and input 1 at V0)", []string{"[0, 1]", "[1, 0]"}, nil, []int{0, 1}},
		{"X ^ 2", "not (not step input 0 at V0 and not step input 1 at step input 1 at V0)", []string{"[0, 1]", "[1, 0]"}, nil, []int{0, 1}},
		{"P(X)", "step not some not at V0", []string{"{1}", "{}", "{0, 1, 3}", "{2}"}, []int{0, 1}, []int{0, 1, 2, 3}},
		{"P(X)", "step some at V0", []string{"{1}", "{}", "{1, 3}", "{2}"}, nil, []int{2, 3}},
		{"B(X)", "step many 3 at V0", []string{"{0 : 2, 1 : 1}", "{0 : 1, 1 : 2}", "{0 : 2}", "{2 : 9, 3 : 2}"}, nil, []int{0, 1}},
		{"B(X)", "step not many 2 not at V0", []string{"{0 : 1}", "{0 : 1, 1 : 1}", "{2 : 2}", "{1 : 1, 2 : 2}"}, []int{0, 1}, []int{0, 1, 2, 3}},
		{"2 * D(X)", "not (not step first is 1 and not step second share 2 / 3 at V0)", []string{"(0, {0 : 1, 1 : 2})", "(1, {0 : 1})", "(0, {0 : 1, 2 : 2})", "(0, {0 : 1, 2 : 1, 3 : 1})"}, []int{0, 1}, []int{0, 1, 2, 3}},
		{"D(P(X))", "step share 1 / 2 some at V0", []string{"{{0} : 1, {1} : 1}", "{{} : 1, {0} : 1, {1} : 1}", "{{} : 1, {0} : 1}"}, nil, []int{0, 1, 2}},
		{"D(P(X))", "step share 2 / 3 some at V0", []string{"{{0} : 1, {1} : 1}", "{{} : 1, {0} : 1, {1} : 1}", "{{} : 1, {0} : 1}"}, nil, []int{0, 1}},
	} {
		s := states(c.f, c.next...)
		expectSolution(t, s, []api.Equation{least(c.f, c.text)}, c.least)
		expectSolution(t, s, []api.Equation{greatest(c.f, c.text)}, c.greatest)
	}
}

func TestNoStates(t *testing.T) {
	for _, f := range functors {
		s := states(f)
		expectSolution(t, s, []api.Equation{greatest(f, "top"), greatest(f, "V0"), least(f, "V0")}, nil, nil, nil)
		if l, e := Apply(s, []api.Equation{greatest(f, "top")}, [][]int{nil}); e != api.OK || !same(l, [][]int{nil}) {
			t.Errorf("%v %d", l, e)
		}
		if l, e := Apply(s, []api.Equation{greatest(f, "top")}, [][]int{{0}}); e != api.ErrArg || len(l) > 0 {
			t.Errorf("%v %d", l, e)
		}
	}
}

// around is an oracle for Apply: the formula is true of the same states if their values are among their outputs, which it asks about in the place of variables.
func around(s api.System, l []api.Equation, values [][]int) (u api.System, formulas []api.Formula) {
	outputs := api.Functor{Kind: api.FExp, N: 4, Args: []api.Functor{{Kind: api.FConst, N: 2}}}
	u.Functor = api.Functor{Kind: api.FProd, Args: []api.Functor{outputs, s.Functor}}
	for x, next := range s.Next {
		list := make([]api.Value, 4)
		for k, l := range values {
			if slices.Contains(l, x) {
				list[k].N = 1
			}
		}
		u.Next = append(u.Next, api.Value{Args: []api.Value{{Args: list}, next}})
	}
	var lifted func(a api.Formula) api.Formula
	lifted = func(a api.Formula) api.Formula {
		if a.Op == api.LVar {
			return must(logic.Parse(u.Functor, fmt.Sprintf("step first input %d is 1", a.N)))
		}
		var args []api.Formula
		for _, b := range a.Args {
			args = append(args, lifted(b))
		}
		if a.Op == api.LStep {
			args = []api.Formula{{Op: api.LSecond, Args: args}}
		}
		a.Args = args
		return a
	}
	for _, q := range l {
		formulas = append(formulas, lifted(q.Body))
	}
	return u, formulas
}

func TestApplyByDefinition(t *testing.T) {
	count := map[bool]int{}
	samples(60, 6, 14, 4, func(d *sample.Dice, s api.System, l []api.Equation) {
		var given [][]int
		for range l {
			given = append(given, some(d, len(s.Next)))
		}
		got := must(Apply(s, l, given))
		u, formulas := around(s, l, given)
		if len(got) != len(l) {
			t.Fatalf("%v for %d equations", got, len(l))
		}
		for k, a := range formulas {
			want := must(logic.True(u, a))
			if !slices.Equal(got[k], want) {
				t.Fatalf("%s in %s with %v: %v, not %v", words(s.Functor, l[k].Body), written(s), given, got[k], want)
			}
			count[len(want) > 0 && len(want) < len(s.Next)]++
		}
	})
	if count[true] < 700 {
		t.Errorf("%v", count)
	}
}

// TestApplyToManyStates checks sets of states that take several words.
func TestApplyToManyStates(t *testing.T) {
	s := api.System{Functor: typed("X")}
	for x := range 100 {
		s.Next = append(s.Next, api.Value{N: (x + 1) % 100})
	}
	l := []api.Equation{alone(v(1)), alone(step(at(v(0)))), alone(nots(1, step(at(nots(1, v(1)))))), alone(both(v(0), v(1)))}
	d := sample.Dice(2)
	for range 50 {
		given := [][]int{some(&d, 100), some(&d, 100), nil, complement(nil, 100)}
		before := func(l []int) []int {
			var m []int
			for _, x := range l {
				m = append(m, (x+99)%100)
			}
			slices.Sort(m)
			return m
		}
		both := slices.DeleteFunc(slices.Clone(given[0]), func(x int) bool { return !slices.Contains(given[1], x) })
		if got := must(Apply(s, l, given)); !same(got, [][]int{given[1], before(given[0]), before(given[1]), both}) {
			t.Fatalf("%v of %v", got, given)
		}
	}
	got := must(Solve(s, []api.Equation{{Greatest: true, Body: step(at(v(0)))}, alone(v(0))}))
	if all := complement(nil, 100); !same(got, [][]int{all, all}) {
		t.Errorf("%v", got)
	}
}

// isWithin reports whether all elements of l are in m.
func isWithin(l, m []int) bool {
	return !slices.ContainsFunc(l, func(x int) bool { return !slices.Contains(m, x) })
}

// defined is the definition of the solution: the values from variable k on, if those before it are given.
func defined(s api.System, l []api.Equation, given [][]int) [][]int {
	k := len(given)
	if k == len(l) {
		return given
	}
	var found [][][]int
	for bits := range 1 << len(s.Next) {
		var set []int
		for x := range s.Next {
			if bits>>x&1 == 1 {
				set = append(set, x)
			}
		}
		all := defined(s, l, append(slices.Clone(given), set))
		// The other equations are not asked: one at its own number is enough.
		m := slices.Clone(l)
		for i := range m {
			if i != k {
				m[i].Body = api.Formula{}
			}
		}
		if slices.Equal(must(Apply(s, m, all))[k], set) {
			found = append(found, all)
		}
	}
	for _, all := range found {
		if !slices.ContainsFunc(found, func(other [][]int) bool {
			return l[k].Greatest && !isWithin(other[k], all[k]) || !l[k].Greatest && !isWithin(all[k], other[k])
		}) {
			return all
		}
	}
	panic("no least or greatest set")
}

// TestSolveByDefinition compares Solve with the definition of the solution.
func TestSolveByDefinition(t *testing.T) {
	count := map[bool]int{}
	most := [5]int{0, 5, 4, 3, 2}
	d := sample.Dice(4)
	for _, f := range functors {
		for i := range 40 {
			many := 1 + i%4
			s := d.System(f, 1+d.Below(most[many]))
			l := d.Equations(s.Functor, many, 3+d.Below(12))
			want := defined(s, l, nil)
			if got := must(Solve(s, l)); !same(got, want) {
				t.Fatalf("%s in %s: %v, not %v", allWords(s.Functor, l), written(s), got, want)
			}
			for _, x := range want {
				count[len(x) > 0 && len(x) < len(s.Next)]++
			}
		}
	}
	if count[true] < 250 {
		t.Errorf("%v", count)
	}
}

// iterated is the solution by rounds that start from the beginning each time.
func iterated(s api.System, l []api.Equation, given [][]int) [][]int {
	k := len(given)
	if k == len(l) {
		return given
	}
	var set []int
	if l[k].Greatest {
		set = complement(nil, len(s.Next))
	}
	for {
		all := iterated(s, l, append(slices.Clone(given), set))
		next := must(Apply(s, l, all))[k]
		if slices.Equal(next, set) {
			return all
		}
		set = next
	}
}

// games returns equations about a parity game: each state has a rank and the player who moves, and the least rank that is seen for ever decides.
func games(firstIsGreatest bool) []api.Equation {
	const f = "8 * P(X)"
	part := func(format string, rank, output int) string {
		return fmt.Sprintf("not (step first is %d and step second "+format+")", output, fmt.Sprintf("V%d", rank))
	}
	var parts []string
	for rank := range 4 {
		parts = append(parts, part("some at %s", rank, 2*rank), part("not some not at %s", rank, 2*rank+1))
	}
	text := parts[0]
	for _, p := range parts[1:] {
		text = "(" + text + " and " + p + ")"
	}
	l := []api.Equation{alone(v(1)), alone(v(2)), alone(v(3)), least(f, "not "+text)}
	for k := range l {
		l[k].Greatest = firstIsGreatest == (k%2 == 0)
	}
	return l
}

// TestSolveByRounds compares Solve with rounds that start from the beginning each time, for systems in which equations of both kinds depend on each other.
func TestSolveByRounds(t *testing.T) {
	count := map[bool]int{}
	compare := func(s api.System, l []api.Equation) {
		t.Helper()
		want := iterated(s, l, nil)
		if got := must(Solve(s, l)); !same(got, want) {
			t.Fatalf("%s in %s: %v, not %v", allWords(s.Functor, l), written(s), got, want)
		}
		for _, x := range want {
			count[len(x) > 0 && len(x) < len(s.Next)]++
		}
	}
	samples(30, 8, 14, 4, func(d *sample.Dice, s api.System, l []api.Equation) { compare(s, l) })
	d := sample.Dice(8)
	for i := range 400 {
		compare(d.System("8 * P(X)", 2+i%10), games(i%2 == 0))
		l := games(i%4 < 2)
		for k := range l {
			l[k].Greatest = d.Below(2) == 0
		}
		compare(d.System("8 * P(X)", 2+i%10), l)
	}
	if count[true] < 1500 {
		t.Errorf("%v", count)
	}
}

// line returns a system of 2 * P(X) in which so many states follow each other, the last one itself. Only it has the output 1.
func line(many int) api.System {
	next := make([]string, many)
	for x := range next {
		next[x] = fmt.Sprintf("(%d, {%d})", (x+1)/many, min(x+1, many-1))
	}
	return states("2 * P(X)", next...)
}

// TestLongNestedRounds checks equations that all take as many rounds as there are states, in each other.
func TestLongNestedRounds(t *testing.T) {
	const f = "2 * P(X)"
	s := line(100)
	all := complement(nil, 100)
	with := func(parts ...string) string {
		text := parts[0]
		for _, p := range parts[1:] {
			text = "(" + text + " and " + p + ")"
		}
		return text
	}
	// Each value ends after 100 rounds, and each Body mentions all variables.
	hidden := "not (not top and not (V0 and (V1 and (V2 and V3))))"
	reach := func(n int) string {
		return with(fmt.Sprintf("not (not step first is 1 and not step second some at V%d)", n), hidden)
	}
	stay := func(n int) string {
		return with(fmt.Sprintf("(step first is 0 and step second some at V%d)", n), hidden)
	}
	free := func(text string) string { return strings.ReplaceAll(text, hidden, "top") }
	l := []api.Equation{greatest(f, stay(0)), least(f, reach(1)), greatest(f, stay(2)), least(f, reach(3))}
	expectSolution(t, s, l, nil, all, nil, all)
	for k, text := range []string{stay(0), reach(1), stay(2), reach(3)} {
		l[k].Body = body(f, free(text))
	}
	expectSolution(t, s, l, nil, all, nil, all)
	for _, kinds := range []int{0, 1, 2, 3, 4, 5, 6, 7, 9, 10, 12, 15} {
		var want [][]int
		for k := range l {
			isGreatest := kinds>>k&1 == 1
			if l[k] = least(f, reach(k)); isGreatest {
				l[k] = greatest(f, stay(k))
			}
			want = append(want, map[bool][]int{false: all}[isGreatest])
		}
		expectSolution(t, s, l, want...)
	}
}

// TestLargestEquations checks that large equations are solved in a system with many successors of each state.
func TestLargestEquations(t *testing.T) {
	const f = "P(X)"
	all := complement(nil, 100)
	s := api.System{Functor: typed(f)}
	for x := range 100 {
		var others api.Value
		for _, y := range complement([]int{x}, 100) {
			others.Args = append(others.Args, api.Value{N: y})
		}
		s.Next = append(s.Next, others)
	}
	for kinds := range 16 {
		var l []api.Equation
		for k := range 4 {
			part := body(f, fmt.Sprintf("step some (at V%d and not at not V%d)", k, (k+1)%4))
			l = append(l, api.Equation{Greatest: kinds>>k&1 == 1, Body: ands(99, part)})
		}
		got := must(Solve(s, l))
		if kinds == 0 && !same(got, make([][]int, 4)) || kinds == 15 && !same(got, [][]int{all, all, all, all}) || !same(must(Apply(s, l, got)), got) {
			t.Errorf("%d: %v", kinds, got)
		}
	}
}

func TestApplyErrors(t *testing.T) {
	s := of(coins)
	l := []api.Equation{alone(v(0)), alone(v(1))}
	for _, c := range []struct {
		given [][]int
		want  api.Errno
	}{
		{nil, api.ErrArg}, {[][]int{}, api.ErrArg}, {[][]int{{}}, api.ErrArg}, {[][]int{{}, {}, {}}, api.ErrArg},
		{[][]int{nil, nil}, api.OK}, {[][]int{{}, {}}, api.OK}, {[][]int{{0, 1, 2}, {0, 1, 2}}, api.OK}, {[][]int{{2}, {0, 2}}, api.OK},
		{[][]int{{1, 1}, {}}, api.ErrArg}, {[][]int{{}, {1, 1}}, api.ErrArg}, {[][]int{{1, 0}, {}}, api.ErrArg}, {[][]int{{0, 2, 1}, {}}, api.ErrArg},
		{[][]int{{-1}, {}}, api.ErrArg}, {[][]int{{3}, {}}, api.ErrArg}, {[][]int{{}, {0, 3}}, api.ErrArg}, {[][]int{{}, {-1, 0}}, api.ErrArg},
		{[][]int{{math.MinInt}, {}}, api.ErrArg}, {[][]int{{math.MaxInt}, {}}, api.ErrArg}, {[][]int{{64}, {}}, api.ErrArg}, {[][]int{{1 << 32}, {}}, api.ErrArg},
		{[][]int{make([]int, 1<<20), {}}, api.ErrArg}, {make([][]int, 1<<20), api.ErrArg},
	} {
		got, e := Apply(s, l, c.given)
		if e != c.want || e == api.OK && !same(got, c.given) || e != api.OK && len(got) > 0 {
			t.Errorf("%.100q: %v %d", fmt.Sprint(c.given), got, e)
		}
	}
}

// TestSolveErrors checks which error is returned if several apply.
func TestSolveErrors(t *testing.T) {
	good, bad := of(coins), of(coins)
	bad.Next = bad.Next[:2]
	noFunctor := api.System{Functor: api.Functor{Kind: -1}}
	equations, none := []api.Equation{alone(v(0))}, []api.Equation{alone(nots(1, v(0)))}
	for _, c := range []struct {
		s     api.System
		l     []api.Equation
		given [][]int
		want  api.Errno
	}{
		{bad, none, nil, api.ErrSystem}, {noFunctor, none, nil, api.ErrSystem}, {bad, equations, [][]int{{}}, api.ErrSystem},
		{good, none, nil, api.ErrEquations}, {good, nil, [][]int{{}}, api.ErrEquations}, {good, none, [][]int{{7}}, api.ErrEquations},
		{good, equations, nil, api.ErrArg}, {good, equations, [][]int{{7}}, api.ErrArg},
	} {
		if l, e := Apply(c.s, c.l, c.given); e != c.want || len(l) > 0 {
			t.Errorf("Apply: %v: %v %d, not %d", c, l, e, c.want)
		}
		if c.want == api.ErrArg {
			continue
		}
		if l, e := Solve(c.s, c.l); e != c.want || len(l) > 0 {
			t.Errorf("Solve: %v: %v %d, not %d", c, l, e, c.want)
		}
	}
	if !functor.Same(good.Functor, typed("2 * D(X)")) {
		t.Error("an argument was changed")
	}
}
