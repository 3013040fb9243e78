package kleene

import (
	"fmt"
	"maps"
	"slices"
	"strings"

	"ectype/api"
	"ectype/equiv"
	"ectype/recur"
	"ectype/sample"
	"ectype/scan"
	"ectype/term"
)

// What package sample has, by shorter names.
const coins = sample.Coins

var typed, of, written, states = sample.Functor, sample.System, sample.Text, sample.States

func must[R any](r R, e api.Errno) R { return sample.Must(r, e) }

// functors are those of which systems and equations are thrown: each kind, and combinations of them.
var functors = []string{
	"X", "3", "2 * X", "X * X", "X + 2", "1 + X", "X ^ 2", "2 * X ^ 2", "P(X)", "2 * P(X)", "P(P(X))", "P(X * 2)",
	"B(X)", "B(1 + X)", "B(X) + X", "D(X)", "2 * D(X)", "1 + D(X)", "D(P(X))", "P(D(1 + X))", "B(P(X))", "D(B(2 * X))", "(1 + P(X)) ^ 2",
}

// equationLists calls do with some lists of equations of each functor: with 1 to most equations that have at most so many recursions each.
func equationLists(many, most, recursions int, do func(d *sample.Dice, f string, l []api.Term)) {
	d := sample.Dice(11)
	for _, f := range functors {
		for i := range many {
			do(&d, f, d.EquationTerms(typed(f), 1+i%most, recursions))
		}
	}
}

// open returns the terms of a functor with these strings, wherever their variables refer to.
func open(f string, texts ...string) []api.Term {
	var l []api.Term
	for _, text := range texts {
		t, ok := scan.All(text, func(r *scan.Reader) api.Term { return recur.Read(r, typed(f)) })
		if !ok {
			panic(text)
		}
		l = append(l, t)
	}
	return l
}

// words returns the strings of terms of a functor, wherever their variables refer to.
func words(f string, l ...api.Term) []string {
	var texts []string
	for _, t := range l {
		texts = append(texts, recur.Text(typed(f), t))
	}
	return texts
}

// endless are more bytes than the string of a term with MaxTerm nodes can have.
const endless = 20 * api.MaxTerm

// solved returns the string of the solution of equation i, by its definition, or one with more bytes than endless.
func solved(texts []string, i int) string {
	length := 0
	var write func(i, around int, open map[int]int) string
	write = func(i, around int, open map[int]int) string {
		if length += len(texts[i]); length > endless {
			return ""
		}
		open = maps.Clone(open) // the recursions around those that equations have become
		open[i] = around
		return sample.Replaced(texts[i], func(k, inside int) string {
			if k < inside {
				return fmt.Sprint("#", k)
			}
			if before, ok := open[k-inside]; ok {
				return fmt.Sprint("#", around+inside-1-before)
			}
			return write(k-inside, around+inside, open)
		})
	}
	text := write(i, 0, map[int]int{})
	if length > endless {
		return strings.Repeat("?", length)
	}
	return text
}

// solutionByDefinition returns the string of the solution of equation i, and false if it is too large or too deep for a term.
func solutionByDefinition(f string, texts []string, i int) (string, bool) {
	text := solved(texts, i)
	if len(text) > endless {
		return "", false
	}
	nodes, _ := term.Size(open(f, text)[0])
	return text, nodes <= api.MaxTerm && depth(text) <= api.MaxDepth
}

// depth returns the largest number of recursions within each other in a string.
func depth(text string) int {
	now, most := 0, 0
	for i := range text {
		switch text[i] {
		case '<':
			now++
		case '>':
			now--
		}
		most = max(most, now)
	}
	return most
}

// alike reports whether the closed term t describes the behavior of a state. It is not known if t has too many recursions for a system.
func alike(s api.System, x int, t api.Term) (is, known bool) {
	u, e := term.System(s.Functor, t)
	if e == api.ErrLarge {
		return false, false
	}
	return must(equiv.Alike(s, must(u, e), x, 0)), true
}

// rec returns the recursion of a part, within and leaf the part of a state, and node a part with others.
func rec(p api.Part) api.Term        { return api.Term{Body: []api.Part{p}} }
func within(t api.Term) api.Part     { return api.Part{Terms: []api.Term{t}} }
func leaf(k int) api.Part            { return within(api.Term{Var: k}) }
func number(n int) api.Part          { return api.Part{N: n} }
func node(args ...api.Part) api.Part { return api.Part{Args: args} }
func times[E any](n int, x E) []E    { return slices.Repeat([]E{x}, n) }

// chain returns the string of so many recursions of X within each other, the innermost one with the variable k.
func chain(recursions, k int) string {
	return strings.Repeat("<", recursions) + fmt.Sprint("#", k) + strings.Repeat(">", recursions)
}

// list returns the string of a set with these elements.
func list(elements ...string) string { return "{" + strings.Join(elements, ", ") + "}" }

func isZero(t api.Term) bool { return t.Var == 0 && t.Body == nil }
func isZeroSystem(s api.System) bool {
	return s.Functor.Kind == 0 && s.Functor.Args == nil && s.Next == nil
}
