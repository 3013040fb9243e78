package fix

import (
	"fmt"
	"slices"
	"strings"
	"testing"

	"ectype/api"
	"ectype/logic"
	"ectype/sample"
	"ectype/value"
)

// What package sample has, by shorter names.
const coins = sample.Coins

var typed, of, written, states = sample.Functor, sample.System, sample.Text, sample.States
var nots, ands = sample.Nots, sample.Ands

func must[R any](r R, e api.Errno) R { return sample.Must(r, e) }

// marker is the string of a formula that stands for a variable in strings of formulas.
func marker(n int) string { return "step " + strings.Repeat("not ", 30+n) + "top" }

// names are V0 to V3, and what stands for them in strings.
func names() (short, long []string) {
	for n := range api.MaxEquations {
		v := fmt.Sprintf("V%d", n)
		short, long = append(short, v, marker(n)), append(long, marker(n), v)
	}
	return short, long
}

// body returns the formula with variables whose string is text, in which V0 to V3 are the variables.
func body(f, text string) api.Formula {
	short, _ := names()
	a := must(logic.Parse(typed(f), strings.NewReplacer(short...).Replace(text)))
	var marked func(a api.Formula) api.Formula
	marked = func(a api.Formula) api.Formula {
		for n := range api.MaxEquations {
			if logic.Same(a, must(logic.Parse(typed(f), marker(n)))) {
				return api.Formula{Op: api.LVar, N: n}
			}
		}
		for i, b := range a.Args {
			a.Args[i] = marked(b)
		}
		return a
	}
	return marked(a)
}

// words returns the string of a formula with variables, V0 to V3.
func words(f api.Functor, a api.Formula) string {
	_, long := names()
	text := must(logic.String(f, with(a, func(n int) api.Formula { return must(logic.Parse(f, marker(n))) })))
	return strings.NewReplacer(long...).Replace(text)
}

// with returns a with other formulas in the place of its variables.
func with(a api.Formula, by func(n int) api.Formula) api.Formula {
	if a.Op == api.LVar {
		return by(a.N)
	}
	a.Args = slices.Clone(a.Args)
	for i, b := range a.Args {
		a.Args[i] = with(b, by)
	}
	return a
}

// least and greatest return an equation of a string.
func least(f, text string) api.Equation    { return api.Equation{Body: body(f, text)} }
func greatest(f, text string) api.Equation { return api.Equation{Greatest: true, Body: body(f, text)} }

// allWords returns the strings of equations.
func allWords(f api.Functor, l []api.Equation) string {
	var texts []string
	for _, q := range l {
		texts = append(texts, map[bool]string{false: "least ", true: "greatest "}[q.Greatest]+words(f, q.Body))
	}
	return strings.Join(texts, "; ")
}

// functors are those of which systems and equations are thrown: each kind, and combinations of them.
var functors = []string{
	"X", "3", "2 * X", "X * X", "X + 2", "X ^ 2", "2 * X ^ 2", "P(X)", "2 * P(X)", "3 * P(X)", "P(P(X))", "P(1 + X)", "P(X) ^ 2", "2 * (P(X) + X)",
	"B(X)", "B(1 + X)", "2 * B(X)", "B(X) + X", "D(X)", "2 * D(X)", "1 + D(X)", "D(X + 2)", "D(P(X))", "P(D(1 + X))", "D(B(2 * X))", "(1 + P(X)) ^ 2",
}

// samples calls do with some systems of each of the functors, with 1 to most states, and equations for each.
func samples(many, most, depth, equations int, do func(d *sample.Dice, s api.System, l []api.Equation)) {
	d := sample.Dice(9)
	for _, f := range functors {
		for i := range many {
			s := d.System(f, 1+i%most)
			do(&d, s, d.Equations(s.Functor, 1+d.Below(equations), 2+d.Below(depth-1)))
		}
	}
}

// some returns some of n states, in increasing order.
func some(d *sample.Dice, n int) []int {
	var l []int
	for x := range n {
		if d.Below(2) == 0 {
			l = append(l, x)
		}
	}
	return l
}

// same reports whether two lists of lists are equal.
func same(l, m [][]int) bool {
	return slices.EqualFunc(l, m, func(a, b []int) bool { return slices.Equal(a, b) })
}

// complement returns the states from 0 to n - 1 that are not in l.
func complement(l []int, n int) []int {
	var rest []int
	for x := range n {
		if !slices.Contains(l, x) {
			rest = append(rest, x)
		}
	}
	return rest
}

// successors returns the states in the next value of x.
func successors(s api.System, x int) []int {
	return must(value.States(s.Functor, len(s.Next), s.Next[x]))
}

// reached returns the states that can be reached from x, and x itself.
func reached(s api.System, x int) []int {
	found := []int{x}
	for i := 0; i < len(found); i++ {
		for _, y := range successors(s, found[i]) {
			if !slices.Contains(found, y) {
				found = append(found, y)
			}
		}
	}
	return found
}

// expect checks what Check returns.
func expect(t *testing.T, f string, want api.Errno, l ...api.Equation) {
	t.Helper()
	if e := Check(typed(f), l); e != want {
		t.Errorf("%s: %.300q: error %d, not %d", f, fmt.Sprint(l), e, want)
	}
}
