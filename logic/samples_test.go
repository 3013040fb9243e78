package logic

import (
	"fmt"
	"math/big"
	"slices"
	"strings"

	"ectype/api"
	"ectype/sample"
)

// What package sample has, by shorter names.
const coins = sample.Coins

var typed, of, written, nots = sample.Functor, sample.System, sample.Text, sample.Nots

func must[R any](r R, e api.Errno) R { return sample.Must(r, e) }

func isZero(a api.Formula) bool { return a.Op == 0 && a.N == 0 && a.M == 0 && len(a.Args) == 0 }

// node returns a tree without numbers.
func node(op int, args ...api.Formula) api.Formula { return api.Formula{Op: op, Args: args} }

// at1 returns a tree with the number N, and at2 one with both numbers.
func at1(op, n int, args ...api.Formula) api.Formula {
	return api.Formula{Op: op, N: n, Args: args}
}
func at2(op, n, m int, args ...api.Formula) api.Formula {
	return api.Formula{Op: op, N: n, M: m, Args: args}
}

// top is the formula that is true of everything; step makes a state formula of a value formula.
var top = node(api.LTop)

func step(a api.Formula) api.Formula { return node(api.LStep, a) }

// tops returns a flat formula with so many nodes, an odd number.
func tops(nodes int) api.Formula { return sample.Ands(nodes, top) }

// oneKind has a functor of each kind, in their order, whose parts are X.
var oneKind = []string{"X", "3", "X * X", "X + X", "X ^ 3", "P(X)", "B(X)", "D(X)"}

// functors are those of which formulas and systems are thrown: each kind, and combinations of them.
var functors = []string{
	"X", "3", "2 * X", "X * X", "X + 2", "1 + X", "X ^ 2", "2 * X ^ 2", "P(X)", "2 * P(X)", "P(P(X))", "P(X * 2)", "P(1 + X)", "P(X) ^ 2",
	"B(X)", "B(1 + X)", "2 * B(X)", "B(X) + X", "D(X)", "2 * D(X)", "1 + D(X)", "D(X + 2)", "D(P(X))", "P(D(1 + X))", "B(P(X))", "D(B(2 * X))", "(1 + P(X)) ^ 2",
}

// samples calls do with some systems of each of the functors, with 1 to most states, and a formula for each.
func samples(many, most, depth int, do func(d *sample.Dice, s api.System, a api.Formula)) {
	d := sample.Dice(7)
	for _, f := range functors {
		for i := range many {
			s := d.System(f, 1+i%most)
			do(&d, s, d.Formula(s.Functor, 1+d.Below(depth)))
		}
	}
}

// wordOf returns the word of an operator in the chapter, and the kind of functors whose values it is about: -1 for states, -2 for all sorts.
func wordOf(op int) (word string, kind int) {
	switch op {
	case api.LTop:
		return "top", -2
	case api.LNot:
		return "not", -2
	case api.LAnd:
		return "and", -2
	case api.LStep:
		return "step", -1
	case api.LState:
		return "at", api.FId
	case api.LIs:
		return "is", api.FConst
	case api.LFirst:
		return "first", api.FProd
	case api.LSecond:
		return "second", api.FProd
	case api.LLeft:
		return "left", api.FSum
	case api.LRight:
		return "right", api.FSum
	case api.LAt:
		return "input", api.FExp
	case api.LSome:
		return "some", api.FPow
	case api.LMany:
		return "many", api.FBag
	case api.LShare:
		return "share", api.FDist
	}
	return "none", -3
}

// isFormula is the table of the chapter: a is a formula about the values of part, or about states if part is nil, whatever its size.
func isFormula(f api.Functor, part *api.Functor, a api.Formula) bool {
	_, kind := wordOf(a.Op)
	if kind != -2 && (part == nil) != (kind == -1) || kind == -3 || part != nil && kind >= 0 && part.Kind != kind {
		return false
	}
	below, numbers := []*api.Functor{part}, a.N == 0 && a.M == 0
	switch a.Op {
	case api.LTop:
		below = nil
	case api.LAnd:
		below = append(below, part)
	case api.LStep:
		below = []*api.Functor{&f}
	case api.LState:
		below = []*api.Functor{nil}
	case api.LIs:
		below, numbers = nil, a.N >= 0 && a.N < part.N && a.M == 0
	case api.LFirst, api.LLeft, api.LSome:
		below[0] = &part.Args[0]
	case api.LSecond, api.LRight:
		below[0] = &part.Args[1]
	case api.LAt:
		below[0], numbers = &part.Args[0], a.N >= 0 && a.N < part.N && a.M == 0
	case api.LMany:
		below[0], numbers = &part.Args[0], a.N >= 1 && a.N <= 1048576 && a.M == 0
	case api.LShare:
		below[0], numbers = &part.Args[0], a.N >= 1 && a.N <= a.M && a.M <= 1048576
	}
	if !numbers || len(a.Args) != len(below) {
		return false
	}
	for i, b := range a.Args {
		if !isFormula(f, below[i], b) {
			return false
		}
	}
	return true
}

// isTrueOf is the table of the chapter: a is true of the state x.
func isTrueOf(s api.System, x int, a api.Formula) bool {
	switch a.Op {
	case api.LTop:
		return true
	case api.LNot:
		return !isTrueOf(s, x, a.Args[0])
	case api.LAnd:
		return isTrueOf(s, x, a.Args[0]) && isTrueOf(s, x, a.Args[1])
	}
	return isTrueOfValue(s, s.Next[x], a.Args[0])
}

// isTrueOfValue is the table of the chapter: a is true of the value v.
func isTrueOfValue(s api.System, v api.Value, a api.Formula) bool {
	is := func(i int, v api.Value) bool { return isTrueOfValue(s, v, a.Args[i]) }
	switch a.Op {
	case api.LTop:
		return true
	case api.LNot:
		return !is(0, v)
	case api.LAnd:
		return is(0, v) && is(1, v)
	case api.LState:
		return isTrueOf(s, v.N, a.Args[0])
	case api.LIs:
		return v.N == a.N
	case api.LFirst:
		return is(0, v.Args[0])
	case api.LSecond:
		return is(0, v.Args[1])
	case api.LLeft:
		return v.N == 0 && is(0, v.Args[0])
	case api.LRight:
		return v.N == 1 && is(0, v.Args[0])
	case api.LAt:
		return is(0, v.Args[a.N])
	}
	var some, all int64
	for i, u := range v.Args {
		w := int64(1)
		if a.Op != api.LSome {
			w = int64(v.Weights[i])
		}
		all += w
		if is(0, u) {
			some += w
		}
	}
	switch a.Op {
	case api.LSome:
		return some > 0
	case api.LMany:
		return some >= int64(a.N)
	}
	return big.NewRat(some, all).Cmp(big.NewRat(int64(a.N), int64(a.M))) >= 0
}

// words returns the string of a, of any tree whose operators have their Args; something like it of other trees.
func words(a api.Formula) string {
	word, _ := wordOf(a.Op)
	var args []string
	for _, b := range a.Args {
		args = append(args, words(b))
	}
	switch a.Op {
	case api.LAnd:
		return "(" + strings.Join(args, " and ") + ")"
	case api.LIs:
		return fmt.Sprintf("is %d", a.N)
	case api.LAt, api.LMany:
		word = fmt.Sprintf("%s %d", word, a.N)
	case api.LShare:
		word = fmt.Sprintf("share %d / %d", a.N, a.M)
	}
	return strings.Join(slices.Insert(args, 0, word), " ")
}

// copied returns a in new memory.
func copied(a api.Formula) api.Formula {
	var args []api.Formula
	for _, b := range a.Args {
		args = append(args, copied(b))
	}
	a.Args = args
	return a
}
