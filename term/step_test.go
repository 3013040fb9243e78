package term

import (
	"testing"

	"ectype/api"
	"ectype/equiv"
	"ectype/sample"
)

func TestStep(t *testing.T) {
	for _, c := range []struct{ f, text, want string }{
		{"2 * D(X)", "<(1, {#0 : 1})>", "(1, {<(1, {#0 : 1})> : 1})"},
		{"2 * D(X)", "<(0, {<(1, {#0 : 1})> : 1, <(1, {#0 : 1})> : 2})>", "(0, {<(1, {#0 : 1})> : 1, <(1, {#0 : 1})> : 2})"},
		{"X", "<#0>", "<#0>"},
		{"X", "<<#0>>", "<#0>"},
		{"X", "<<#1>>", "<<<#1>>>"},
		{"X", "<<<#0>>>", "<<#0>>"},
		{"X", "<<<#1>>>", "<<#1>>"},
		{"X", "<<<#2>>>", "<<<<<#2>>>>>"},
		{"3", "<2>", "2"},
		{"1 + X", "<l 0>", "l 0"},
		{"1 + X", "<r <r #1>>", "r <r <r <r #1>>>"},
		{"X ^ 2", "<[<[#0, #1]>, #0]>", "[<[#0, <[<[#0, #1]>, #0]>]>, <[<[#0, #1]>, #0]>]"},
		{"X * X", "<(<(<(#0, #1)>, #0)>, <(#0, #0)>)>", "(<(<(#0, #1)>, #0)>, <(#0, #0)>)"},
		// Elements stay in their order, and equal ones stay there.
		{"P(X)", "<{<{}>, #0, <{}>, #0}>", "{<{}>, <{<{}>, #0, <{}>, #0}>, <{}>, <{<{}>, #0, <{}>, #0}>}"},
		{"B(X)", "<{#0 : 4, <{#1 : 6, #0 : 9}> : 2}>", "{<{#0 : 4, <{#1 : 6, #0 : 9}> : 2}> : 4, <{<{#0 : 4, <{#1 : 6, #0 : 9}> : 2}> : 6, #0 : 9}> : 2}"},
		{"D(X)", "<{#0 : 4}>", "{<{#0 : 4}> : 4}"},
		{"P(P(X))", "<{{}, {#0}, {}}>", "{{}, {<{{}, {#0}, {}}>}, {}}"},
	} {
		if got, _ := stepText(c.text); got != c.want {
			t.Fatalf("%s: the definition has %s, not %s", c.text, got, c.want)
		}
		f := typed(c.f)
		p, e := Step(f, of(c.f, c.text))
		if got := wordsOfPart(f, f, p); e != api.OK || got != c.want {
			t.Errorf("%s: error %d, %s, not %s", c.text, e, got, c.want)
		}
	}
}

// isClosed reports whether all terms in a part are valid terms of f.
func isClosed(f api.Functor, p api.Part) bool {
	for _, x := range p.Terms {
		if Check(f, x) != api.OK {
			return false
		}
	}
	for _, a := range p.Args {
		if !isClosed(f, a) {
			return false
		}
	}
	return true
}

// TestStepByDefinition compares Step with its definition for strings, and checks that the part describes the same behavior.
func TestStepByDefinition(t *testing.T) {
	described, longer := 0, 0
	samples(100, 9, func(d *sample.Dice, f string, x api.Term) {
		g, text := typed(f), words(typed(f), x)
		want, variables := stepText(text)
		first, _ := Size(x)
		p, e := Step(g, x)
		if (first-1)*(variables+1) > api.MaxTerm {
			if e != api.ErrLarge || !isZeroPart(p) {
				t.Fatalf("%s: error %d", text, e)
			}
			return
		}
		if e != api.OK || wordsOfPart(g, g, p) != want || !isClosed(g, p) {
			t.Fatalf("%s: error %d, %s, not %s", text, e, short(p), want)
		}
		nodes, recursions := Size(rec(p))
		if nodes > first {
			longer++
		}
		if nodes > api.MaxTerm || recursions > api.MaxStates || Check(g, rec(p)) != api.OK {
			return
		}
		described++
		if s, u := must(System(g, x)), must(System(g, rec(p))); !must(equiv.Alike(s, u, 0, 0)) {
			t.Fatalf("%s does not behave like %s: %s, %s", text, words(g, rec(p)), written(s), written(u))
		}
		// Its terms are closed, so that none of their variables refers to the recursion of the part.
		if q, e := Step(g, rec(p)); e != api.OK || !sameParts(p, q) {
			t.Fatalf("%s: error %d, %s in the second step", text, e, short(q))
		}
	})
	if described < 1500 || longer < 1000 {
		t.Errorf("%d parts describe a behavior, %d have more nodes", described, longer)
	}
}

// TestNodesOfSteps has terms whose parts have just MaxTerm nodes after a step, and more.
func TestNodesOfSteps(t *testing.T) {
	expectStep := func(want api.Errno, f string, x api.Term, nodes int) {
		t.Helper()
		expect(t, api.OK, f, x)
		p, e := Step(typed(f), x)
		if e != want || e != api.OK && !isZeroPart(p) {
			t.Errorf("%s: %s: error %d", f, short(x), e)
		}
		if n, _ := measurePart(p); e == api.OK && n != nodes {
			t.Errorf("%s: %s: %d nodes, not %d", f, short(x), n, nodes)
		}
	}
	// The part itself has nodes-1 nodes, and so many more for each variable.
	with := func(nodes int, variables int) api.Term {
		return rec(node(append(times(nodes-3-2*variables, node()), node(times(variables, leaf(0))...))...))
	}
	for _, c := range [][3]int{{1000, 0, 999}, {2000, 0, 1999}, {1001, 1, 2000}, {667, 2, 1998}, {501, 3, 2000}, {401, 4, 2000}, {100, 19, 1980}, {126, 15, 2000}} {
		x := with(c[0], c[1])
		if n, _ := Size(x); n != c[0] {
			t.Fatalf("%d nodes, not %d", n, c[0])
		}
		expectStep(api.OK, "P(P(X))", x, c[2])
	}
	for _, c := range [][2]int{{1002, 1}, {2000, 1}, {668, 2}, {669, 2}, {502, 3}, {2000, 4}, {402, 4}, {127, 15}, {2000, 998}, {1999, 998}} {
		expectStep(api.ErrLarge, "P(P(X))", with(c[0], c[1]), 0)
	}
	// Variables that refer to an inner recursion stay as they are.
	inner := within(rec(node(times(400, leaf(0))...)))
	expectStep(api.OK, "P(X)", rec(node(inner, inner)), 1607)
	expectStep(api.ErrLarge, "P(X)", rec(node(inner, leaf(0), within(rec(node(leaf(1), leaf(0)))))), 0)
	expectStep(api.OK, "P(X)", rec(node(inner, leaf(0))), 1612)
}

// TestDepthOfSteps has terms that are just as deep as terms may be after a step, and deeper.
func TestDepthOfSteps(t *testing.T) {
	for _, c := range []struct {
		recursions int
		want       api.Errno
	}{{2, api.OK}, {49, api.OK}, {50, api.OK}, {51, api.ErrLarge}, {52, api.ErrLarge}, {100, api.ErrLarge}} {
		// The innermost variable refers to the whole term: there are twice as many recursions, but for the outermost one.
		p, e := Step(typed("X"), chain(c.recursions, c.recursions-1))
		if e != c.want || e != api.OK && !isZeroPart(p) {
			t.Errorf("%d recursions: error %d", c.recursions, e)
		}
		if _, depth := measurePart(p); e == api.OK && depth != 2*c.recursions-1 {
			t.Errorf("%d recursions: %d", c.recursions, depth)
		}
	}
	for _, k := range []int{0, 50, 98} {
		if _, e := Step(typed("X"), chain(api.MaxDepth, k)); e != api.OK {
			t.Errorf("variable %d: error %d", k, e)
		}
	}
	deep := leaf(0)
	for range 98 {
		deep = within(rec(node(deep)))
	}
	for inside, c := range []struct {
		p    api.Part
		want api.Errno
	}{
		{node(within(rec(node(deep))), leaf(0)), api.OK},
		{node(within(rec(node(deep, leaf(1)))), leaf(0)), api.ErrLarge},
		{node(deep, within(rec(node(leaf(1))))), api.OK},
		{node(deep, within(rec(node(within(rec(node(leaf(2)))))))), api.ErrLarge},
	} {
		expect(t, api.OK, "P(X)", rec(c.p))
		p, e := Step(typed("P(X)"), rec(c.p))
		if e != c.want {
			t.Errorf("%d: error %d", inside, e)
		}
		if _, depth := measurePart(p); e == api.OK && (depth != api.MaxDepth || !isClosed(typed("P(X)"), p)) {
			t.Errorf("%d: a depth of %d", inside, depth)
		}
	}
}
