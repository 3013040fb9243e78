package kleene

import (
	"fmt"
	"slices"
	"testing"

	"ectype/api"
	"ectype/sample"
	"ectype/system"
	"ectype/term"
)

func TestSystem(t *testing.T) {
	for _, c := range []struct {
		f           string
		texts, next []string
		first       []int
	}{
		{"2 * D(X)", []string{"<(0, {#2 : 1, #3 : 2})>", "<(1, {#2 : 1})>", "<(1, {#3 : 1})>"}, []string{"(0, {1 : 1, 2 : 2})", "(1, {1 : 1})", "(1, {2 : 1})"}, []int{0, 1, 2}},
		{"X", []string{"<#0>"}, []string{"0"}, []int{0}},
		{"X", []string{"<#1>"}, []string{"0"}, []int{0}},
		{"X", []string{"<<#3>>", "<<<#2>>>"}, []string{"1", "2", "3", "4", "2"}, []int{0, 2}},
		{"X", []string{"<<#2>>", "<<<#4>>>"}, []string{"1", "0", "3", "4", "2"}, []int{0, 2}},
		{"3", []string{"<2>", "<0>"}, []string{"2", "0"}, []int{0, 1}},
		{"X ^ 2", []string{"<[<[#1, #2]>, #0]>", "<[#3, #2]>", "<[<[<[#1, #3]>, #4]>, #1]>"}, []string{"[1, 0]", "[0, 0]", "[3, 2]", "[4, 0]", "[5, 3]", "[4, 0]"}, []int{0, 2, 3}},
		// An equation that no other one mentions, and equations in the order in which they are given.
		{"1 + X", []string{"<r <r #4>>", "<l 0>", "<r #1>"}, []string{"r 1", "r 3", "l 0", "r 0"}, []int{0, 2, 3}},
		// Normal forms: the order of elements, equal ones, and common divisors.
		{"P(X)", []string{"<{#2, #1, #2, <{#3, #2, #1}>}>", "<{}>"}, []string{"{0, 1, 2}", "{0, 2}", "{}"}, []int{0, 2}},
		{"B(X)", []string{"<{#2 : 4, #1 : 2, #0 : 4}>", "<{#0 : 3, #2 : 1}>"}, []string{"{0 : 6, 1 : 4}", "{1 : 4}"}, []int{0, 1}},
		{"D(X)", []string{"<{#2 : 4, #1 : 2, #0 : 6}>", "<{#0 : 3, #2 : 1}>"}, []string{"{0 : 2, 1 : 1}", "{1 : 1}"}, []int{0, 1}},
	} {
		s, first, e := System(typed(c.f), open(c.f, c.texts...))
		if want := states(c.f, c.next...); e != api.OK || !system.Same(s, want) || !slices.Equal(first, c.first) {
			t.Errorf("%q: error %d, %q %v, not %q", c.texts, e, written(s), first, written(want))
		}
	}
}

func TestSystemByDefinition(t *testing.T) {
	sizes := map[int]int{}
	equationLists(60, 9, 5, func(d *sample.Dice, f string, l []api.Term) {
		texts := words(f, l...)
		next, want := sample.NextTexts(texts...)
		s, first, e := System(typed(f), l)
		if e != api.OK || !system.Same(s, states(f, next...)) || !slices.Equal(first, want) || system.Check(s) != api.OK {
			t.Fatalf("%s: %q: error %d, %v, not %q %v", f, texts, e, first, next, want)
		}
		sizes[len(s.Next)]++
	})
	if len(sizes) < 20 {
		t.Errorf("%v", sizes)
	}
}

// TestSystemOfOneTerm checks that a closed recursion is an equation, with the same system as a term.
func TestSystemOfOneTerm(t *testing.T) {
	d := sample.Dice(13)
	for _, f := range functors {
		for i := range 40 {
			x := d.Term(typed(f), 1+i%20)
			want := must(term.System(typed(f), x))
			s, first, e := System(typed(f), []api.Term{x})
			l, errno := Solve(typed(f), []api.Term{x})
			if e != api.OK || !system.Same(s, want) || !slices.Equal(first, []int{0}) || errno != api.OK || len(l) != 1 || !term.Same(l[0], x) {
				t.Fatalf("%s: errors %d %d", words(f, x)[0], e, errno)
			}
		}
	}
}

// tooLarge checks that System returns ErrLarge for a list of equations.
func tooLarge(t *testing.T, f string, texts ...string) {
	t.Helper()
	if s, first, e := System(typed(f), open(f, texts...)); e != api.ErrLarge || !isZeroSystem(s) || len(first) > 0 {
		t.Errorf("%s: error %d, %d states, %v", f, e, len(s.Next), first)
	}
}

func TestMaxStates(t *testing.T) {
	for _, n := range []int{1, 50, 99} {
		s, first, e := System(typed("X"), open("X", chain(n, n), chain(100-n, 100-n)))
		if e != api.OK || len(s.Next) != 100 || s.Next[99].N != 0 || s.Next[n-1].N != 0 || !slices.Equal(first, []int{0, n}) {
			t.Errorf("%d: error %d, %d states, %v", n, e, len(s.Next), first)
		}
		tooLarge(t, "X", chain(n, n), chain(101-n, 0))
	}
	tooLarge(t, "X", times(100, chain(100, 199))...)
	tooLarge(t, "P(X)", append(times(99, "<{}>"), "<{<{}>}>")...)
	s, first, e := System(typed("P(X)"), open("P(X)", times(100, "<{#100}>")...))
	if e != api.OK || len(s.Next) != 100 || first[99] != 99 || s.Next[0].Args[0].N != 99 {
		t.Errorf("error %d, %d states", e, len(s.Next))
	}
}

// TestMaxArgs has collections with MaxArgs different elements, and with more.
func TestMaxArgs(t *testing.T) {
	for f, end := range map[string]string{"P": "", "B": " : 2", "D": " : 2"} {
		elements := pairs(0, 101)
		for i := range elements {
			elements[i] += end
		}
		f += "(16 * 16)"
		end := "<" + list(elements[0]) + ">"
		if s, _, e := System(typed(f), open(f, end, "<"+list(append(elements[:100:100], elements[:100]...)...)+">")); e != api.OK || len(s.Next[1].Args) != 100 {
			t.Errorf("%s: error %d", f, e)
		}
		tooLarge(t, f, end, "<"+list(elements...)+">")
		tooLarge(t, f, "<"+list(append(elements[:100:100], elements...)...)+">", end)
	}
	// There are only so many states, but each of them in two elements.
	elements := []string{}
	for j := range 50 {
		elements = append(elements, fmt.Sprintf("(#%d, 0)", j+1), fmt.Sprintf("(#%d, 1)", j+1))
	}
	texts := append([]string{"<" + list(elements...) + ">"}, times(50, "<{}>")...)
	if s, _, e := System(typed("P(X * 2)"), open("P(X * 2)", texts...)); e != api.OK || len(s.Next[0].Args) != 100 {
		t.Errorf("error %d", e)
	}
	texts[0] = "<" + list(append(elements, "(#51, 1)")...) + ">"
	tooLarge(t, "P(X * 2)", texts...)
}

// withNodes returns the string of an equation term whose next value has 10 + 3 * pairs nodes: 9 different sets of pairs.
func withNodes(many int) string {
	var sets []string
	for i := range 9 {
		sets = append(sets, list(pairs(i, (many+i)/9)...))
	}
	return "<" + list(sets...) + ">"
}

// TestMaxTotal has next values with MaxTotal nodes together, and with more: each of them is small enough.
func TestMaxTotal(t *testing.T) {
	f := "P(P(16 * 16))"
	texts := append(times(10, withNodes(630)), withNodes(330))
	s, _, e := System(typed(f), open(f, texts...))
	total := 0
	for _, v := range s.Next {
		total += nodesOf(v)
	}
	if e != api.OK || total != api.MaxTotal {
		t.Errorf("error %d, %d nodes", e, total)
	}
	tooLarge(t, f, append(slices.Clone(texts), "<{}>")...)
	tooLarge(t, f, append(slices.Clone(texts[:10]), withNodes(331))...)
	tooLarge(t, f, times(100, withNodes(630))...)
	// Only what is left of equal elements counts.
	again := "<" + list(times(499, "{(1, 1)}")...) + ">"
	if s, _, e := System(typed(f), open(f, times(100, again)...)); e != api.OK || len(s.Next) != 100 || nodesOf(s.Next[7]) != 5 {
		t.Errorf("error %d", e)
	}
}

// nodesOf returns the number of nodes of a value.
func nodesOf(v api.Value) int {
	n := 1
	for _, a := range v.Args {
		n += nodesOf(a)
	}
	return n
}
