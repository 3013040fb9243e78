package kleene

import (
	"fmt"
	"math"
	"slices"
	"strings"
	"testing"

	"ectype/api"
	"ectype/sample"
	"ectype/term"
)

func TestSolve(t *testing.T) {
	for _, c := range []struct {
		f     string
		texts []string
		want  []string
	}{
		{"X", []string{"<#0>"}, []string{"<#0>"}},
		{"X", []string{"<#1>"}, []string{"<#0>"}},
		{"X", []string{"<#2>", "<#1>"}, []string{"<<#1>>", "<<#1>>"}},
		{"X", []string{"<#2>", "<#2>"}, []string{"<<#0>>", "<#0>"}},
		{"X", []string{"<#2>", "<#3>", "<#2>"}, []string{"<<<#1>>>", "<<#1>>", "<<#1>>"}},
		{"X", []string{"<<#3>>", "<<<#3>>>"}, []string{"<<<<<#4>>>>>", "<<<<<#4>>>>>"}},
		{"X", []string{"<<#1>>", "<<<#4>>>"}, []string{"<<#1>>", "<<<#2>>>"}},
		{"3", []string{"<2>", "<0>"}, []string{"<2>", "<0>"}},
		{"X ^ 2", []string{"<[#2, #1]>", "<[#1, #2]>"}, []string{"<[<[#1, #0]>, #0]>", "<[<[#1, #0]>, #0]>"}},
		// Variables of an equation term that refer to recursions in it, and to equations: the numbers of these count the recursions in between.
		{"P(X)", []string{"<{<{#0, #1, #2, #3}>}>", "<{#1, #0, #2}>"}, []string{"<{<{#0, #1, #1, <{#2, #0, #0}>}>}>", "<{<{<{#0, #1, #1, #2}>}>, #0, #0}>"}},
		{"X * X", []string{"<(<(#2, #3)>, #3)>", "<(#2, #3)>", "<(#0, <(#1, #3)>)>"}, []string{
			"<(<(#1, <(#0, <(#0, <(#1, #2)>)>)>)>, <(#0, <(#1, <(#0, #2)>)>)>)>",
			"<(#0, <(#0, <(#1, #2)>)>)>",
			"<(#0, <(#1, <(#0, #2)>)>)>",
		}},
		// An equation that stands in two places is written twice, with what is open there.
		{"P(X)", []string{"<{#2, #3}>", "<{#3}>", "<{#2, #1}>"}, []string{"<{<{<{#1, #2}>}>, <{<{#1}>, #1}>}>", "<{<{#1, <{#2, #1}>}>}>", "<{<{#1}>, <{<{#2}>, #1}>}>"}},
		{"2 * D(X)", []string{"<(0, {#2 : 1, #3 : 2})>", "<(1, {#2 : 1})>", "<(1, {#3 : 1})>"}, []string{"<(0, {<(1, {#0 : 1})> : 1, <(1, {#0 : 1})> : 2})>", "<(1, {#0 : 1})>", "<(1, {#0 : 1})>"}},
		// Elements stay in their order, equal ones stay there, and so do weights.
		{"B(1 + X)", []string{"<{r #2 : 4, l 0 : 6, r #0 : 2, r #2 : 4}>", "<{}>"}, []string{"<{r <{}> : 4, l 0 : 6, r #0 : 2, r <{}> : 4}>", "<{}>"}},
		{"D(X)", []string{"<{#1 : 4, #0 : 8}>"}, []string{"<{#0 : 4, #0 : 8}>"}},
	} {
		var defined []string
		for i := range c.texts {
			defined = append(defined, solved(c.texts, i))
		}
		if !slices.Equal(defined, c.want) {
			t.Errorf("%q: the definition has %q, not %q", c.texts, defined, c.want)
		}
		l, e := Solve(typed(c.f), open(c.f, c.texts...))
		if got := words(c.f, l...); e != api.OK || !slices.Equal(got, c.want) {
			t.Errorf("%q: error %d, %q, not %q", c.texts, e, got, c.want)
		}
	}
}

// definedSolutions returns the strings of all solutions by their definition, and ErrLarge if one of them is too large or too deep.
func definedSolutions(f string, texts []string) ([]string, api.Errno) {
	var l []string
	for i := range texts {
		text, ok := solutionByDefinition(f, texts, i)
		if !ok {
			return nil, api.ErrLarge
		}
		l = append(l, text)
	}
	return l, api.OK
}

func TestSolveByDefinition(t *testing.T) {
	count, longer := map[api.Errno]int{}, 0
	equationLists(80, 20, 4, func(d *sample.Dice, f string, l []api.Term) {
		texts := words(f, l...)
		want, e := definedSolutions(f, texts)
		got, errno := Solve(typed(f), l)
		if errno != e || !slices.Equal(words(f, got...), want) {
			t.Fatalf("%s: %q: errors %d and %d, %q, not %q", f, texts, errno, e, words(f, got...), want)
		}
		for i, x := range got {
			if term.Check(typed(f), x) != api.OK {
				t.Fatalf("%s: %q: %s is no valid term", f, texts, want[i])
			}
			if len(want[i]) > len(texts[i]) {
				longer++
			}
		}
		count[e]++
	})
	if count[api.OK] < 800 || count[api.ErrLarge] < 100 || longer < 1000 {
		t.Errorf("%v errors, %d solutions are longer than their equations", count, longer)
	}
}

// TestDeepSolutions has solutions with just MaxDepth recursions within each other, and more.
func TestDeepSolutions(t *testing.T) {
	for _, c := range []struct {
		texts []string
		want  api.Errno
	}{
		{[]string{chain(100, 99)}, api.OK},
		{[]string{chain(100, 100)}, api.OK},
		{[]string{chain(50, 51), chain(50, 50)}, api.OK},
		{[]string{chain(99, 100), chain(1, 0)}, api.OK},
		{[]string{chain(100, 101), chain(1, 0)}, api.ErrLarge},
		{[]string{chain(1, 0), chain(1, 0), chain(100, 101)}, api.ErrLarge}, // the last one is too deep
		{[]string{chain(50, 51), chain(51, 50)}, api.ErrLarge},
		{[]string{chain(51, 52), chain(50, 49)}, api.ErrLarge},
		{times(100, chain(1, 100)), api.OK},
		{append(times(98, chain(1, 0)), chain(60, 159), chain(41, 41)), api.ErrLarge},
	} {
		want, e := definedSolutions("X", c.texts)
		if e != c.want {
			t.Fatalf("%q: the definition has %d", c.texts, e)
		}
		l, e := Solve(typed("X"), open("X", c.texts...))
		if e != c.want || !slices.Equal(words("X", l...), want) {
			t.Errorf("%q: error %d", c.texts, e)
		}
	}
	// A cycle: each solution goes around once.
	var cycle []string
	for i := range api.MaxStates {
		cycle = append(cycle, chain(1, 1+(i+1)%api.MaxStates))
	}
	l, e := Solve(typed("X"), open("X", cycle...))
	if e != api.OK || len(l) != 100 || words("X", l[42])[0] != chain(100, 99) {
		t.Errorf("error %d", e)
	}
	cycle[7] = chain(2, 2+8)
	if l, e := Solve(typed("X"), open("X", cycle...)); e != api.ErrLarge || len(l) > 0 {
		t.Errorf("error %d for 101 recursions", e)
	}
}

// TestLargeSolutions has solutions with just MaxTerm nodes, and more.
func TestLargeSolutions(t *testing.T) {
	// Two copies of the second equation have 997 nodes each.
	for _, more := range []string{"", ", {}", ", {#0}", ", {#2}"} {
		texts := []string{"<{{#2, #2}, {}" + more + "}>", "<" + list(list(times(496, "#0")...), "{}", "{}") + ">"}
		l, e := Solve(typed("P(P(X))"), open("P(P(X))", texts...))
		if more != "" {
			if e != api.ErrLarge || len(l) > 0 {
				t.Errorf("%q: error %d", more, e)
			}
			continue
		}
		if n, _ := term.Size(l[0]); e != api.OK || n != api.MaxTerm {
			t.Errorf("error %d, %d nodes", e, n)
		}
	}
}

// TestGrowth has equations that are written into each other far more often than terms allow.
func TestGrowth(t *testing.T) {
	all := func(m int) []string {
		var variables []string
		for j := range m {
			variables = append(variables, fmt.Sprint("#", 1+j))
		}
		return times(m, "<"+list(variables...)+">")
	}
	for m, want := range map[int]api.Errno{1: api.OK, 4: api.OK, 5: api.OK, 6: api.ErrLarge, 7: api.ErrLarge, 50: api.ErrLarge, 100: api.ErrLarge} {
		l, e := Solve(typed("P(X)"), open("P(X)", all(m)...))
		if e != want || e == api.OK && words("P(X)", l[0])[0] != solved(all(m), 0) {
			t.Errorf("%d equations: error %d", m, e)
		}
		var next []string
		for range m {
			next = append(next, strings.NewReplacer("#", "", "<", "", ">", "").Replace(sample.Replaced(all(m)[0], func(k, _ int) string { return fmt.Sprint(k - 1) })))
		}
		s := states("P(X)", next...)
		for _, x := range []int{0, m - 1} {
			if _, e := Of(s, x); e != want {
				t.Errorf("%d states: error %d", m, e)
			}
		}
	}
}

// TestTwice has equations each of which stands twice in the one before it: the last one has 6 nodes, and each other one twice as many as the next, and 4.
func TestTwice(t *testing.T) {
	var next []string
	for x := range 100 {
		next = append(next, fmt.Sprintf("(%d, %d)", min(x+1, 99), min(x+1, 99)))
	}
	s := states("X * X", next...)
	for x, want := 99, 6; x >= 0; x-- {
		u, e := Of(s, x)
		if nodes, _ := term.Size(u); want <= api.MaxTerm && (e != api.OK || nodes != want) || want > api.MaxTerm && (e != api.ErrLarge || !isZero(u)) {
			t.Errorf("%d: error %d, %d nodes, not %d", x, e, nodes, want)
		}
		want = min(2*want+4, 1<<20)
	}
}

func TestOf(t *testing.T) {
	for _, c := range []struct {
		text string
		want []string
	}{
		{coins, []string{"<(0, {<(1, {#0 : 1})> : 1, <(1, {#0 : 1})> : 2})>", "<(1, {#0 : 1})>", "<(1, {#0 : 1})>"}},
		{"type X ^ 2\n0 = [1, 0]\n1 = [0, 1]\n", []string{"<[<[#1, #0]>, #0]>", "<[<[#1, #0]>, #0]>"}},
		{"type P(X)\n0 = {1, 2}\n1 = {0, 1, 2}\n2 = {}\n", []string{"<{<{#1, #0, <{}>}>, <{}>}>", "<{<{#1, <{}>}>, #0, <{}>}>", "<{}>"}},
		{"type 1 + X\n0 = r 1\n1 = r 2\n2 = l 0\n", []string{"<r <r <l 0>>>", "<r <l 0>>", "<l 0>"}},
	} {
		s := of(c.text)
		f := strings.TrimPrefix(strings.Split(c.text, "\n")[0], "type ")
		for x, want := range c.want {
			if u, e := Of(s, x); e != api.OK || words(f, u)[0] != want {
				t.Errorf("%q: error %d, %q, not %q", c.text, e, words(f, u)[0], want)
			}
		}
		for _, x := range []int{-1, len(s.Next), len(s.Next) + 1, math.MaxInt, math.MinInt, 1 << 32} {
			if u, e := Of(s, x); e != api.ErrArg || !isZero(u) {
				t.Errorf("state %d: error %d", x, e)
			}
		}
	}
}

// TestOfIsTheSolution checks that Of returns the solution of one of the equations, whatever the sizes of others.
func TestOfIsTheSolution(t *testing.T) {
	d := sample.Dice(5)
	count := map[api.Errno]int{}
	for _, f := range functors {
		for i := range 40 {
			s := d.System(f, 1+i%16)
			texts := words(f, must(Equations(s))...)
			for x := range s.Next {
				want, ok := solutionByDefinition(f, texts, x)
				u, e := Of(s, x)
				if ok != (e == api.OK) || !ok && (e != api.ErrLarge || !isZero(u)) || ok && words(f, u)[0] != want {
					t.Fatalf("%d of %s: error %d, %q, not %q", x, written(s), e, words(f, u), want)
				}
				count[e]++
			}
		}
	}
	if count[api.OK] < 4000 || count[api.ErrLarge] < 200 {
		t.Errorf("%v", count)
	}
}
