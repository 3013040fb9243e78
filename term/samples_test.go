package term

import (
	"fmt"
	"slices"
	"strings"

	"ectype/api"
	"ectype/sample"
)

// What package sample has, by shorter names.
const coins = sample.Coins

var typed, written, states = sample.Functor, sample.Text, sample.States

func must[R any](r R, e api.Errno) R { return sample.Must(r, e) }

// of returns the term of a functor with a string.
func of(f, text string) api.Term { return must(Parse(typed(f), text)) }

// functors are those of which terms are thrown: each kind, and combinations of them.
var functors = []string{
	"X", "3", "2 * X", "X * X", "X + 2", "1 + X", "X ^ 2", "2 * X ^ 2", "P(X)", "2 * P(X)", "P(P(X))", "P(1 + X)", "P(X) ^ 2", "P(X * 2)",
	"B(X)", "B(1 + X)", "2 * B(X)", "B(X) + X", "D(X)", "2 * D(X)", "1 + D(X)", "D(X + 2)", "D(P(X))", "P(D(1 + X))", "B(P(X))", "D(B(2 * X))", "(1 + P(X)) ^ 2",
}

// samples calls do with some terms of each of the functors, with at most so many recursions.
func samples(many, recursions int, do func(d *sample.Dice, f string, t api.Term)) {
	d := sample.Dice(10)
	for _, f := range functors {
		for range many {
			do(&d, f, d.Term(typed(f), 1+d.Below(recursions)))
		}
	}
}

// known has parts of each kind of functor, with their strings.
var known = []struct {
	f    string
	p    api.Part
	text string
}{
	{"X", leaf(0), "#0"},
	{"X", within(rec(leaf(1))), "<#1>"},
	{"3", number(0), "0"},
	{"3", number(2), "2"},
	{"2 * X", node(number(1), leaf(0)), "(1, #0)"},
	{"1 + X", api.Part{Args: []api.Part{number(0)}}, "l 0"},
	{"1 + X", api.Part{N: 1, Args: []api.Part{leaf(0)}}, "r #0"},
	{"X ^ 1", node(leaf(0)), "[#0]"},
	{"X ^ 3", node(leaf(0), within(rec(node(leaf(1), leaf(0), leaf(1)))), leaf(0)), "[#0, <[#1, #0, #1]>, #0]"},
	{"P(X)", node(), "{}"},
	{"P(X)", node(within(rec(node())), leaf(0), within(rec(node())), leaf(0)), "{<{}>, #0, <{}>, #0}"},
	{"B(X)", node(), "{}"},
	{"B(X)", weighed([]int{2, 4, 2}, leaf(0), within(rec(node())), leaf(0)), "{#0 : 2, <{}> : 4, #0 : 2}"},
	{"B(X)", weighed([]int{api.MaxWeight - 1, 1}, leaf(0), leaf(0)), "{#0 : 1048575, #0 : 1}"},
	{"D(X)", weighed([]int{api.MaxWeight}, leaf(0)), "{#0 : 1048576}"},
	{"D(X)", weighed([]int{6, 3, 9}, leaf(0), leaf(0), leaf(0)), "{#0 : 6, #0 : 3, #0 : 9}"},
	{"2 * D(X)", node(number(0), weighed([]int{1, 2}, within(rec(coin)), within(rec(coin)))), "(0, {<(1, {#0 : 1})> : 1, <(1, {#0 : 1})> : 2})"},
	{"P(B(1 + X))", node(weighed([]int{3}, api.Part{N: 1, Args: []api.Part{leaf(0)}}), weighed(nil), weighed(nil)), "{{r #0 : 3}, {}, {}}"},
}

// coin is the part of the states 1 and 2 of coins.
var coin = node(number(1), weighed([]int{1}, leaf(0)))

// rec returns the recursion of a part.
func rec(p api.Part) api.Term { return api.Term{Body: []api.Part{p}} }

// within and leaf return the part of a state, with a term or a variable, number that of a number, and node and weighed those of other kinds.
func within(t api.Term) api.Part     { return api.Part{Terms: []api.Term{t}} }
func leaf(k int) api.Part            { return within(api.Term{Var: k}) }
func number(n int) api.Part          { return api.Part{N: n} }
func node(args ...api.Part) api.Part { return api.Part{Args: args} }
func times[E any](n int, x E) []E    { return slices.Repeat([]E{x}, n) }
func isZero(t api.Term) bool         { return t.Var == 0 && t.Body == nil }
func isZeroPart(p api.Part) bool {
	return p.N == 0 && p.Args == nil && p.Weights == nil && p.Terms == nil
}
func isZeroSystem(s api.System) bool {
	return s.Functor.Kind == 0 && s.Functor.Args == nil && s.Next == nil
}
func nested(n int, text string) string { return strings.Repeat("<", n) + text + strings.Repeat(">", n) }
func weighed(weights []int, args ...api.Part) api.Part {
	return api.Part{Args: args, Weights: weights}
}

// short returns what a tree looks like, but not all of it if it is large.
func short(tree any) string {
	s := fmt.Sprint(tree)
	return s[:min(len(s), 300)]
}

// list returns the string of the elements between brackets.
func list(first string, elements []string, last string) string {
	return first + strings.Join(elements, ", ") + last
}

// words returns the string of a term by its definition.
func words(f api.Functor, t api.Term) string {
	if len(t.Body) == 0 {
		return fmt.Sprint("#", t.Var)
	}
	return "<" + wordsOfPart(f, f, t.Body[0]) + ">"
}

// wordsOfPart returns the string of a part of the functor g in a term of f.
func wordsOfPart(f, g api.Functor, p api.Part) string {
	below := g.Args
	if g.Kind > api.FSum {
		below = slices.Repeat(g.Args, len(p.Args))
	} else if g.Kind == api.FSum {
		below = g.Args[p.N:]
	}
	var args []string
	for i, a := range p.Args {
		args = append(args, wordsOfPart(f, below[i], a))
		if len(p.Weights) > 0 {
			args[i] += fmt.Sprint(" : ", p.Weights[i])
		}
	}
	switch g.Kind {
	case api.FId:
		return words(f, p.Terms[0])
	case api.FConst:
		return fmt.Sprint(p.N)
	case api.FProd:
		return list("(", args, ")")
	case api.FSum:
		return string("lr"[p.N]) + " " + args[0]
	case api.FExp:
		return list("[", args, "]")
	}
	return list("{", args, "}")
}

// stepText returns the string of the part that Step returns for the term with a string, by its definition: variables that refer to it are replaced by it.
// It says how many of these there are.
func stepText(text string) (step string, variables int) {
	step = sample.Replaced(text, func(k, around int) string {
		if k == around-1 {
			variables++
			return text
		}
		return fmt.Sprint("#", k)
	})
	return step[1 : len(step)-1], variables
}

// isTerm is the definition of a valid term: it is one of f, closed, and neither too large nor too deep.
func isTerm(f api.Functor, t api.Term) bool {
	nodes, depth := measure(t)
	return isOf(f, t, 0) && nodes <= api.MaxTerm && depth <= api.MaxDepth
}

// measure returns the number of nodes of a tree, and the largest number of terms within each other whose Body is not empty.
func measure(t api.Term) (nodes, depth int) {
	for _, p := range t.Body {
		n, d := measurePart(p)
		nodes, depth = nodes+n, max(depth, d)
	}
	return nodes + 1, depth + min(len(t.Body), 1)
}

func measurePart(p api.Part) (nodes, depth int) {
	for _, a := range p.Args {
		n, d := measurePart(a)
		nodes, depth = nodes+n, max(depth, d)
	}
	for _, t := range p.Terms {
		n, d := measure(t)
		nodes, depth = nodes+n, max(depth, d)
	}
	return nodes + 1, depth
}

// isOf reports whether t is a term of f with so many recursions around it, to which its variables may refer.
func isOf(f api.Functor, t api.Term, around int) bool {
	switch len(t.Body) {
	case 0:
		return t.Var >= 0 && t.Var < around
	case 1:
		return t.Var == 0 && isPartOf(f, f, t.Body[0], around+1)
	}
	return false
}

// isPartOf is the table of DOC.md, with what chapter 10 changes: p is a part of the functor g.
func isPartOf(f, g api.Functor, p api.Part, around int) bool {
	each := func(parts ...api.Functor) bool {
		for i, a := range p.Args {
			if !isPartOf(f, parts[i%len(parts)], a, around) {
				return false
			}
		}
		return true
	}
	total := 0
	for _, w := range p.Weights {
		if w <= 0 || w > api.MaxWeight {
			return false
		}
		total += w
	}
	n, terms := len(p.Args), len(p.Terms)
	noNumber, noWeights := p.N == 0, len(p.Weights) == 0
	if g.Kind == api.FId {
		return noNumber && noWeights && n == 0 && terms == 1 && isOf(f, p.Terms[0], around)
	}
	if terms > 0 {
		return false
	}
	switch g.Kind {
	case api.FConst:
		return p.N >= 0 && p.N < g.N && noWeights && n == 0
	case api.FProd:
		return noNumber && noWeights && n == 2 && each(g.Args...)
	case api.FSum:
		return (p.N == 0 || p.N == 1) && noWeights && n == 1 && each(g.Args[p.N])
	case api.FExp:
		return noNumber && noWeights && n == g.N && each(g.Args...)
	case api.FPow:
		return noNumber && noWeights && each(g.Args...)
	}
	return noNumber && len(p.Weights) == n && total <= api.MaxWeight && (g.Kind == api.FBag || n > 0) && each(g.Args...)
}
