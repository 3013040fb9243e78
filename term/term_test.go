package term

import (
	"fmt"
	"math"
	"slices"
	"testing"

	"ectype/api"
	"ectype/sample"
)

// expect checks what Check returns.
func expect(t *testing.T, want api.Errno, f string, terms ...api.Term) {
	t.Helper()
	for _, x := range terms {
		if e := Check(typed(f), x); e != want {
			t.Errorf("%s: %s: error %d, not %d", f, short(x), e, want)
		}
	}
}

func TestTermsOfEachKind(t *testing.T) {
	for _, c := range known {
		expect(t, api.OK, c.f, rec(c.p))
	}
	for _, f := range []string{"X", "P(X)"} {
		expect(t, api.ErrTerm, f, api.Term{}, api.Term{Var: 1}, api.Term{Body: []api.Part{}})
	}
	empty := api.Part{Args: []api.Part{}, Weights: []int{}, Terms: []api.Term{}}
	expect(t, api.OK, "P(X)", api.Term{Body: []api.Part{empty}})
	expect(t, api.OK, "B(X)", api.Term{Body: []api.Part{empty}})
	expect(t, api.OK, "X", api.Term{Body: []api.Part{{Args: []api.Part{}, Weights: []int{}, Terms: []api.Term{{Body: []api.Part{}}}}}})
}

// entry is a tree with a functor.
type entry struct {
	f string
	t api.Term
}

// invalid has trees that are no terms of a functor, by names.
func invalid() map[string]entry {
	l := map[string]entry{
		"a variable":            {"X", api.Term{}},
		"another variable":      {"P(X)", api.Term{Var: 3}},
		"two parts":             {"P(X)", api.Term{Body: []api.Part{node(), node()}}},
		"two equal parts":       {"X", api.Term{Body: []api.Part{leaf(0), leaf(0)}}},
		"a recursion's number":  {"P(X)", api.Term{Var: 1, Body: []api.Part{node()}}},
		"an inner number":       {"X", rec(within(api.Term{Var: 1, Body: []api.Part{leaf(0)}}))},
		"a negative number":     {"P(X)", api.Term{Var: -1, Body: []api.Part{node()}}},
		"an inner second part":  {"X", rec(within(api.Term{Body: []api.Part{leaf(0), leaf(0)}}))},
		"many nodes":            {"P(1)", rec(node(times(api.MaxTerm, number(0))...))},
		"very many nodes":       {"P(1)", rec(node(times(1<<20, number(0))...))},
		"no term in it":         {"X", rec(number(0))},
		"a set of no terms":     {"P(X)", rec(node(number(0)))},
		"a part in its place":   {"X", rec(node(leaf(0)))},
		"a part beside it":      {"X", rec(api.Part{Terms: []api.Term{{}}, Args: []api.Part{leaf(0)}})},
		"a state beside it":     {"X", rec(api.Part{Terms: []api.Term{{}}, N: 1})},
		"a weight beside it":    {"X", rec(api.Part{Terms: []api.Term{{}}, Weights: []int{1}})},
		"two terms in a place":  {"X", rec(api.Part{Terms: []api.Term{{}, {}}})},
		"a pair of three parts": {"2 * X", rec(node(number(0), leaf(0), leaf(0)))},
		"the other order":       {"2 * X", rec(node(leaf(0), number(0)))},
		"weights of a pair":     {"2 * X", rec(weighed([]int{1, 1}, number(0), leaf(0)))},
		"no inner pair":         {"2 * X", rec(node(number(0), within(rec(leaf(0)))))},
		"another inner functor": {"P(2 * X)", rec(node(node(number(1), within(rec(coin)))))},
	}
	for _, n := range []int{1, 2, -1, 99, math.MaxInt, math.MinInt} {
		l[fmt.Sprint("variable ", n)] = entry{"X", rec(leaf(n))}
	}
	for _, n := range []int{-1, 2, 3, math.MaxInt, math.MinInt, 1 << 32} {
		l[fmt.Sprint("number ", n)] = entry{"2", rec(number(n))}
		l[fmt.Sprint("side ", n)] = entry{"1 + 1", rec(api.Part{N: n, Args: []api.Part{number(0)}})}
	}
	return l
}

func TestInvalidTerms(t *testing.T) {
	for name, c := range invalid() {
		if e := Check(typed(c.f), c.t); e != api.ErrTerm {
			t.Errorf("%s: error %d", name, e)
		}
	}
	one := api.Part{Args: []api.Part{leaf(0)}}
	for _, c := range known {
		p := c.p
		p.Terms = append(slices.Clone(p.Terms), api.Term{})
		expect(t, api.ErrTerm, c.f, rec(p), rec(leaf(1)))
		if typed(c.f).Kind != api.FId {
			expect(t, api.ErrTerm, c.f, rec(leaf(0)), rec(within(rec(c.p))))
		}
	}
	for _, f := range []string{"2 * X", "X ^ 2", "P(X)", "B(X)", "D(X)"} {
		expect(t, api.ErrTerm, f, rec(api.Part{N: 1, Args: times(2, leaf(0)), Weights: []int{1, 1}}), rec(api.Part{N: -1, Args: times(2, leaf(0))}))
	}
	expect(t, api.ErrTerm, "X ^ 2", rec(node()), rec(one), rec(node(times(3, leaf(0))...)), rec(weighed([]int{1, 1}, times(2, leaf(0))...)))
	expect(t, api.ErrTerm, "1 + X", rec(node()), rec(node(times(2, number(0))...)), rec(one), rec(api.Part{N: 1, Args: []api.Part{number(0)}}), rec(weighed([]int{1}, number(0))))
	expect(t, api.ErrTerm, "P(X)", rec(weighed([]int{1}, leaf(0))), rec(weighed([]int{1})))
	expect(t, api.ErrTerm, "3", rec(node(number(0))), rec(api.Part{Weights: []int{1}}), rec(number(3)))
}

func TestWeights(t *testing.T) {
	two := times(2, leaf(0))
	expect(t, api.OK, "B(X)", rec(node()))
	expect(t, api.ErrTerm, "D(X)", rec(node()))
	for _, f := range []string{"B(X)", "D(X)"} {
		for _, weights := range [][]int{{1, 1}, {2, 4}, {3, 1}, {api.MaxWeight - 1, 1}, {api.MaxWeight / 2, api.MaxWeight / 2}} {
			expect(t, api.OK, f, rec(weighed(weights, two...)))
		}
		for _, weights := range [][]int{nil, {1}, {1, 1, 1}, {0, 1}, {1, 0}, {-1, 3}, {1, -1}, {api.MaxWeight, 1}, {1, api.MaxWeight}, {math.MaxInt, 1}, {1, math.MaxInt}, {math.MaxInt, math.MaxInt}, {math.MinInt, math.MinInt}, {1 << 32, 1}} {
			expect(t, api.ErrTerm, f, rec(weighed(weights, two...)))
		}
		expect(t, api.ErrTerm, f, rec(weighed([]int{1})), rec(weighed(times(1<<20, 1), leaf(0))))
	}
}

// TestCheckByDefinition compares Check with the definition, on terms that are changed a little, and as terms of other functors.
func TestCheckByDefinition(t *testing.T) {
	count := map[api.Errno]int{}
	samples(200, 6, func(d *sample.Dice, f string, x api.Term) {
		g := typed(f)
		if Check(g, x) != api.OK || !isTerm(g, x) {
			t.Fatalf("%s: %s is no term", f, words(g, x))
		}
		for range 2 {
			x = d.ChangedTerm(x)
			e := Check(g, x)
			count[e]++
			if e != api.OK && e != api.ErrTerm || (e == api.OK) != isTerm(g, x) {
				t.Fatalf("%s: %v: error %d", f, x, e)
			}
		}
		other := typed(functors[d.Below(len(functors))])
		if e := Check(other, x); (e == api.OK) != isTerm(other, x) {
			t.Fatalf("%v: %v: error %d", other, x, e)
		}
	})
	if count[api.OK] < 1000 || count[api.ErrTerm] < 1000 {
		t.Errorf("%v", count)
	}
}

func TestMaxTerm(t *testing.T) {
	// Each element of P(1) is a node, and one of P(X) with a variable has two.
	expect(t, api.OK, "P(1)", rec(node(times(api.MaxTerm-2, number(0))...)))
	expect(t, api.ErrTerm, "P(1)", rec(node(times(api.MaxTerm-1, number(0))...)))
	half := times(api.MaxTerm/2-1, leaf(0))
	expect(t, api.OK, "P(X)", rec(node(half...)))
	expect(t, api.ErrTerm, "P(X)", rec(node(append(half, leaf(0))...)))
	// A recursion of a variable has three nodes, beside the part that it is in.
	inner := within(rec(node(leaf(0))))
	expect(t, api.OK, "P(X)", rec(node(times(399, inner)...)))
	expect(t, api.OK, "P(X)", rec(node(append(times(399, inner), within(rec(node())))...)))
	expect(t, api.ErrTerm, "P(X)", rec(node(times(400, inner)...)))
	if n, recursions := Size(rec(node(append(times(399, inner), within(rec(node())))...))); n != api.MaxTerm || recursions != 401 {
		t.Errorf("%d nodes, %d recursions", n, recursions)
	}
}

// chain returns so many recursions of X within each other, the innermost one with a variable.
func chain(recursions, k int) api.Term {
	p := leaf(k)
	for range recursions - 1 {
		p = within(rec(p))
	}
	return rec(p)
}

func TestMaxDepth(t *testing.T) {
	expect(t, api.OK, "X", chain(1, 0), chain(100, 0), chain(100, 50), chain(100, 99))
	expect(t, api.ErrTerm, "X", chain(1, 1), chain(99, 99), chain(100, 100), chain(101, 0), chain(101, 100), chain(900, 0), chain(1<<15, 0))
	// Recursions beside each other are not within each other.
	deep := within(chain(99, 98))
	expect(t, api.ErrTerm, "X ^ 4", rec(node(times(4, deep)...)))
	deep = leaf(0)
	for range 99 {
		deep = within(rec(node(deep)))
	}
	expect(t, api.OK, "P(X)", rec(node(deep, leaf(0), deep)))
	expect(t, api.ErrTerm, "P(X)", rec(node(leaf(0), within(rec(node(deep))))))
}

// TestTermsThatShareMemory has terms with very many nodes, which are refused at once.
func TestTermsThatShareMemory(t *testing.T) {
	p := leaf(0)
	for range 60 {
		p = within(rec(node(times(50, p)...)))
	}
	huge := p.Terms[0]
	expect(t, api.ErrTerm, "P(X)", huge, rec(p))
	set := number(0)
	for range 7 {
		set = node(times(1000, set)...)
	}
	expect(t, api.ErrTerm, "P(P(P(P(P(P(P(2)))))))", rec(set))
	if s, e := System(typed("P(X)"), huge); e != api.ErrTerm || !isZeroSystem(s) {
		t.Errorf("System: %d", e)
	}
	if p, e := Step(typed("P(X)"), huge); e != api.ErrTerm || !isZeroPart(p) {
		t.Errorf("Step: %d", e)
	}
	if s, e := String(typed("P(X)"), huge); e != api.ErrTerm || s != "" {
		t.Errorf("String: %d", e)
	}
}

// TestWhichError checks that all functions return ErrFunctor, and then, except Parse, ErrTerm, with zero values.
func TestWhichError(t *testing.T) {
	refused := func(name string, want api.Errno, f api.Functor, x api.Term) {
		t.Helper()
		s, system := System(f, x)
		p, step := Step(f, x)
		text, str := String(f, x)
		if e := Check(f, x); e != want || system != want || step != want || str != want {
			t.Errorf("%s: errors %d %d %d %d, not %d", name, e, system, step, str, want)
		}
		if !isZeroSystem(s) || !isZeroPart(p) || text != "" {
			t.Errorf("%s: %v %v %q next to an error", name, s, p, text)
		}
	}
	for name, c := range invalid() {
		refused(name, api.ErrTerm, typed(c.f), c.t)
	}
	deep := typed("X")
	for range api.MaxHeight {
		deep = api.Functor{Kind: api.FPow, Args: []api.Functor{deep}}
	}
	for _, f := range []api.Functor{{Kind: -1}, {Kind: 8}, {Kind: api.FConst}, {Kind: api.FPow}, {Args: []api.Functor{{}}}, {N: 1}, deep} {
		for _, x := range []api.Term{{}, rec(leaf(0)), rec(node()), rec(leaf(7)), {Var: -1}} {
			refused("functor", api.ErrFunctor, f, x)
		}
		for _, s := range []string{"", "#0", "<{}>", "<#0>", "?"} {
			if x, e := Parse(f, s); e != api.ErrFunctor || !isZero(x) {
				t.Errorf("Parse of %q: %v %d", s, x, e)
			}
		}
	}
}

func TestSize(t *testing.T) {
	for text, want := range map[string][2]int{
		"<(1, {#0 : 1})>": {6, 1},
		"<(0, {<(1, {#0 : 1})> : 1, <(1, {#0 : 1})> : 2})>": {18, 3},
		"<(1, {#0 : 1, #0 : 3})>":                           {8, 1},
	} {
		if n, recursions := Size(of("2 * D(X)", text)); n != want[0] || recursions != want[1] {
			t.Errorf("%s: %d %d", text, n, recursions)
		}
	}
	part := api.Part{N: 7, Args: []api.Part{leaf(0), node(leaf(0))}, Weights: []int{1, 2, 3}, Terms: []api.Term{{}, {Var: -4}}}
	for _, c := range []struct {
		t                 api.Term
		nodes, recursions int
	}{
		{api.Term{}, 1, 0},
		{api.Term{Var: -7}, 1, 0},
		{api.Term{Body: []api.Part{}}, 1, 0},
		{api.Term{Var: 3, Body: []api.Part{{}}}, 2, 1},
		{api.Term{Body: times(5, api.Part{})}, 6, 1},
		{rec(part), 9, 1},
		{api.Term{Body: []api.Part{part, part, within(api.Term{Body: []api.Part{part}})}}, 27, 2},
		{chain(1<<15, 3), 1<<16 + 1, 1 << 15},
		{rec(node(times(100000, number(0))...)), 100002, 1},
	} {
		if n, recursions := Size(c.t); n != c.nodes || recursions != c.recursions {
			t.Errorf("%s: %d %d, not %d %d", short(c.t), n, recursions, c.nodes, c.recursions)
		}
	}
	samples(40, 9, func(d *sample.Dice, f string, x api.Term) {
		n, _ := Size(x)
		if want, _ := measure(x); n != want {
			t.Fatalf("%s: %d nodes, not %d", words(typed(f), x), n, want)
		}
	})
}

func TestSame(t *testing.T) {
	l := []api.Term{
		{}, {Var: 1}, {Var: -1}, {Var: math.MinInt},
		rec(number(0)), {Var: 1, Body: []api.Part{{}}}, {Body: times(2, api.Part{})}, {Body: times(3, api.Part{})},
		rec(number(1)), rec(number(-1)), rec(node(number(0))), rec(node(number(0), number(0))), rec(node(number(0), number(1))), rec(node(number(1), number(0))),
		rec(node(node(node()))), rec(leaf(0)), rec(leaf(1)), rec(api.Part{Terms: times(2, api.Term{})}), rec(within(rec(leaf(0)))), rec(within(rec(leaf(1)))),
		rec(weighed([]int{0})), rec(weighed([]int{1})), rec(weighed([]int{1, 1})), rec(weighed([]int{1}, leaf(0))), rec(weighed([]int{2}, leaf(0))), rec(weighed([]int{1, 2}, leaf(0))), rec(weighed([]int{2, 1}, leaf(0))),
		rec(api.Part{Args: []api.Part{{}}, Terms: []api.Term{{}}}), {Body: []api.Part{{}, leaf(0)}}, {Body: []api.Part{leaf(0), {}}},
		chain(1<<15, 0), chain(1<<15, 1), of("P(X)", "<{<{}>, #0}>"), of("P(X)", "<{#0, <{}>}>"), of("P(X)", "<{#0, <{}>, #0}>"),
	}
	for i, x := range l {
		for j, y := range l {
			if Same(x, y) != (i == j) {
				t.Errorf("%s and %s: %v", short(x), short(y), i != j)
			}
		}
	}
	empty := api.Term{Body: []api.Part{{Args: []api.Part{}, Weights: []int{}, Terms: []api.Term{{Body: []api.Part{}}}}}}
	if !Same(empty, rec(leaf(0))) || !Same(api.Term{}, empty.Body[0].Terms[0]) {
		t.Error("an empty slice and nil differ")
	}
	samples(40, 6, func(d *sample.Dice, f string, x api.Term) {
		y := d.ChangedTerm(x)
		if !Same(x, x) || !Same(y, y) || Same(x, y) != Same(y, x) {
			t.Fatalf("%v and %v", x, y)
		}
		if g := typed(f); Check(g, y) == api.OK && Same(x, y) != (words(g, x) == words(g, y)) {
			t.Fatalf("%s and %s: %v", words(g, x), words(g, y), Same(x, y))
		}
	})
}
