package kleene

import (
	"fmt"
	"slices"
	"strings"
	"testing"

	"ectype/api"
	"ectype/sample"
	"ectype/term"
	"ectype/value"
)

func TestEquations(t *testing.T) {
	for text, want := range map[string][]string{
		coins:                                  {"<(0, {#2 : 1, #3 : 2})>", "<(1, {#2 : 1})>", "<(1, {#3 : 1})>"},
		"type X ^ 2\n0 = [1, 0]\n1 = [0, 1]\n": {"<[#2, #1]>", "<[#1, #2]>"},
		"type X\n0 = 0\n":                      {"<#1>"},
		"type 3\n0 = 2\n1 = 0\n":               {"<2>", "<0>"},
		"type P(P(1 + X))\n0 = {{}, {l 0, r 0}}\n":       {"<{{}, {l 0, r #1}}>"},
		"type B(2 * X)\n0 = {(1, 1) : 3}\n1 = {}\n":      {"<{(1, #2) : 3}>", "<{}>"},
		"type D(X) + X\n0 = l {0 : 2, 1 : 1}\n1 = r 0\n": {"<l {#1 : 2, #2 : 1}>", "<r #1>"},
	} {
		s := of(text)
		l, e := Equations(s)
		f := strings.TrimPrefix(strings.Split(text, "\n")[0], "type ")
		if got := words(f, l...); e != api.OK || !slices.Equal(got, want) {
			t.Errorf("%q: error %d, %q, not %q", text, e, got, want)
		}
	}
}

// TestEquationsByDefinition checks that the equation of a state is the string of its next value with y + 1 for each state y.
func TestEquationsByDefinition(t *testing.T) {
	d := sample.Dice(3)
	for _, f := range functors {
		for i := range 40 {
			s := d.System(f, 1+i%12)
			l, e := Equations(s)
			if e != api.OK || len(l) != len(s.Next) {
				t.Fatalf("%s: error %d, %d equations", written(s), e, len(l))
			}
			for x, text := range words(f, l...) {
				next := sample.Replaced(text, func(k, around int) string { return fmt.Sprint(k - around) })
				if want := must(value.String(s.Functor, len(s.Next), s.Next[x])); next != "<"+want+">" {
					t.Fatalf("%s is the equation of %s", text, want)
				}
			}
		}
	}
}

// setsOfStates returns a system of P(P(X)) with 20 states, in which state 0 has 54 sets of 18 states each, and perhaps some more sets of none or one. The other states have the empty set.
func setsOfStates(more ...string) api.System {
	var sets []string
	for x := range 20 {
		for y := x + 1; y < 20 && len(sets) < 54; y++ {
			var set []string
			for z := range 20 {
				if z != x && z != y {
					set = append(set, fmt.Sprint(z))
				}
			}
			sets = append(sets, list(set...))
		}
	}
	next := append([]string{list(append(sets, more...)...)}, times(19, "{}")...)
	return states("P(P(X))", next...)
}

// TestLargeEquations has next values whose equations have just MaxTerm nodes, and more.
func TestLargeEquations(t *testing.T) {
	s := setsOfStates()
	l, e := Equations(s)
	if e != api.OK {
		t.Fatalf("error %d", e)
	}
	if n, _ := term.Size(l[0]); n != api.MaxTerm {
		t.Errorf("%d nodes", n)
	}
	for _, more := range []string{"{}", "{3}"} {
		s := setsOfStates(more)
		if l, e := Equations(s); e != api.ErrLarge || len(l) > 0 {
			t.Errorf("%s: error %d, %d equations", more, e, len(l))
		}
		// An equation that is too large does not matter for a solution in which it does not occur.
		if u, e := Of(s, 0); e != api.ErrLarge || !isZero(u) {
			t.Errorf("%s: error %d", more, e)
		}
		if u, e := Of(s, 19); e != api.OK || words("P(P(X))", u)[0] != "<{}>" {
			t.Errorf("%s: error %d, %v", more, e, u)
		}
	}
}

// TestLargestNextValues has next values with MaxNodes nodes and no states: the recursion around one makes it too large.
func TestLargestNextValues(t *testing.T) {
	for empty, want := range map[bool]api.Errno{false: api.OK, true: api.ErrLarge} {
		// 6 sets of 100 pairs, one of 61 and two of one have 1 + 6 * 301 + 184 + 2 * 4 nodes; the empty one has another.
		var sets []string
		for i := range 6 {
			sets = append(sets, list(pairs(i, 100)...))
		}
		sets = append(sets, list(pairs(0, 61)...), "{(0, 1)}", "{(0, 2)}")
		if empty {
			sets = append(sets, "{}")
		}
		s := states("P(P(16 * 16))", list(sets...), "{}")
		if l, e := Equations(s); e != want || (e == api.OK) != (len(l) == 2) {
			t.Errorf("error %d, not %d", e, want)
		}
		u, e := Of(s, 0)
		if n, _ := term.Size(u); e != want || e == api.OK && n != api.MaxTerm {
			t.Errorf("error %d, not %d, %d nodes", e, want, n)
		}
	}
}

// pairs returns the strings of so many different pairs of numbers, from the one with this number on.
func pairs(first, n int) []string {
	var l []string
	for i := range n {
		l = append(l, fmt.Sprintf("(%d, %d)", (first+i)/16, (first+i)%16))
	}
	return l
}
