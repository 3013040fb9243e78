package unfold

import (
	"fmt"
	"maps"
	"math/big"
	"slices"
	"strings"

	"ectype/api"
	"ectype/sample"
	"ectype/value"
)

// What package sample has, by shorter names.
const coins = sample.Coins

var typed, of = sample.Functor, sample.System

func must[R any](r R, e api.Errno) R { return sample.Must(r, e) }

// swing is a system in which the order of the unfoldings of states 1 and 2 is, from depth 2 on, changed at every second depth.
// They differ in their second components, but their first ones decide later: those depend on the order of 2 and 1, two depths before.
const swing = "type P(X) + (X * X)\n0 = l {1, 2}\n1 = r (3, 5)\n2 = r (4, 6)\n3 = r (2, 5)\n4 = r (1, 5)\n5 = l {}\n6 = l {5}\n"

// kinds has a system of several states for each kind of functor, and for some of their combinations.
var kinds = []string{
	coins, swing,
	"type X\n0 = 1\n1 = 0\n",
	"type 3\n0 = 2\n1 = 0\n",
	"type 2 * X\n0 = (0, 1)\n1 = (0, 2)\n2 = (1, 0)\n",
	"type X + 2\n0 = l 1\n1 = l 2\n2 = r 1\n3 = r 0\n",
	"type X ^ 3\n0 = [0, 1, 0]\n1 = [1, 0, 1]\n",
	"type P(2 * X)\n0 = {(0, 1), (0, 2), (1, 0)}\n1 = {}\n2 = {(1, 2)}\n",
	"type B(1 + X)\n0 = {l 0 : 2, r 1 : 3, r 2 : 1}\n1 = {r 0 : 1}\n2 = {l 0 : 1, r 0 : 1, r 1 : 2}\n",
	"type D(X * 2)\n0 = {(0, 0) : 1, (1, 0) : 2, (1, 1) : 3}\n1 = {(1, 1) : 1}\n",
	"type P(B(X))\n0 = {{}, {0 : 1}, {1 : 1}}\n1 = {{0 : 2, 1 : 1}}\n2 = {}\n",
	"type D(P(X))\n0 = {{} : 1, {1} : 2, {2} : 2}\n1 = {{} : 1}\n2 = {{1} : 3, {0, 1} : 1}\n",
	"type (1 + P(X)) ^ 2\n0 = [l 0, r {0, 1}]\n1 = [r {}, r {1}]\n",
}

// values returns all values of f over n states, with weights of 1 and 2.
func values(f api.Functor, n int) []api.Value {
	var l []api.Value
	add := func(n int, weights []int, args ...api.Value) {
		l = append(l, api.Value{N: n, Args: args, Weights: weights})
	}
	switch f.Kind {
	case api.FId, api.FConst:
		for x := range f.Kind*f.N + (1-f.Kind)*n {
			add(x, nil)
		}
	case api.FProd:
		for _, u := range values(f.Args[0], n) {
			for _, v := range values(f.Args[1], n) {
				add(0, nil, u, v)
			}
		}
	case api.FSum:
		for i, g := range f.Args {
			for _, v := range values(g, n) {
				add(i, nil, v)
			}
		}
	case api.FExp:
		for _, args := range lists(values(f.Args[0], n), f.N) {
			add(0, nil, args...)
		}
	default:
		elements := values(f.Args[0], n)
		slices.SortFunc(elements, value.Compare)
		for _, weights := range lists([]int{0, 1, 2}, len(elements)) {
			if v, ok := collection(f, n, elements, weights); ok {
				l = append(l, v)
			}
		}
	}
	return l
}

// collection returns the collection in which elements have these weights, if it has a normal form other than those with smaller weights.
func collection(f api.Functor, n int, elements []api.Value, weights []int) (api.Value, bool) {
	var v api.Value
	for i, w := range weights {
		if w > 0 {
			v.Args, v.Weights = append(v.Args, elements[i]), append(v.Weights, w)
		}
	}
	if f.Kind == api.FPow {
		v.Weights = nil
		return v, !slices.Contains(weights, 2)
	}
	return v, value.Check(f, n, v) == api.OK
}

// lists returns all lists of so many of the elements.
func lists[E any](elements []E, length int) [][]E {
	if length == 0 {
		return [][]E{nil}
	}
	var l [][]E
	for _, rest := range lists(elements, length-1) {
		for _, x := range elements {
			l = append(l, append([]E{x}, rest...))
		}
	}
	return l
}

// small returns all systems of some functors with few states, by functor.
func small() map[string][]api.System {
	l := map[string][]api.System{}
	for f, n := range map[string]int{
		"X": 3, "2": 2, "2 * X": 3, "X + 1": 3, "X * X": 2, "X ^ 2": 2, "P(X)": 3, "2 * P(X)": 2, "P(P(X))": 2,
		"B(X)": 2, "1 + B(X)": 2, "D(X)": 2, "2 * D(X)": 2, "P(X * 2)": 1, "D(B(X))": 1, "P(1 + X)": 2,
	} {
		g := typed(f)
		for _, next := range lists(values(g, n), n) {
			l[f] = append(l[f], api.System{Functor: g, Next: next})
		}
	}
	return l
}

// meaning says what v, a value of f, is, where leaf says it of what stands in the place of a state.
// Collections are said by how often, or with which probability, which elements occur: two values are equal if the same is said of them.
func meaning(f api.Functor, v api.Value, leaf func(api.Value) string) string {
	switch f.Kind {
	case api.FId:
		return leaf(v)
	case api.FConst:
		return fmt.Sprint(v.N)
	case api.FProd:
		return "pair of " + meaning(f.Args[0], v.Args[0], leaf) + " and " + meaning(f.Args[1], v.Args[1], leaf) + ";"
	case api.FSum:
		return fmt.Sprint("part ", v.N, " by ", meaning(f.Args[v.N], v.Args[0], leaf), ";")
	case api.FExp:
		s := "list of"
		for _, a := range v.Args {
			s += " " + meaning(f.Args[0], a, leaf)
		}
		return s + ";"
	}
	share, total := map[string]int64{}, int64(0)
	for i, a := range v.Args {
		w := int64(1)
		if f.Kind != api.FPow {
			w = int64(v.Weights[i])
		}
		share[meaning(f.Args[0], a, leaf)] += w
		total += w
	}
	s := fmt.Sprint("kind ", f.Kind, " of ")
	for _, a := range slices.Sorted(maps.Keys(share)) {
		switch f.Kind {
		case api.FPow:
			s += a
		case api.FBag:
			s += fmt.Sprint(a, " times ", share[a])
		case api.FDist:
			s += a + " by " + big.NewRat(share[a], total).String()
		}
		s += ", "
	}
	return s + ";"
}

// ofState says what the unfolding of a state is.
func ofState(s api.System, x, depth int) string {
	if depth == 0 {
		return "nothing"
	}
	return meaning(s.Functor, s.Next[x], func(u api.Value) string { return "<" + ofState(s, u.N, depth-1) + ">" })
}

// ofTree says what a tree is.
func ofTree(f api.Functor, v api.Value, depth int) string {
	if depth == 0 {
		return "nothing"
	}
	return meaning(f, v, func(u api.Value) string { return "<" + ofTree(f, u.Args[0], depth-1) + ">" })
}

// isTree is the definition of an unfolding of f, whatever its size: v is one of a part of f, whose states have unfoldings to depth - 1 in their places.
func isTree(f, part api.Functor, depth int, v api.Value) bool {
	if depth == 0 {
		return v.N == 0 && len(v.Args) == 0 && len(v.Weights) == 0
	}
	each := func(g api.Functor, depth int) bool {
		return !slices.ContainsFunc(v.Args, func(a api.Value) bool { return !isTree(f, g, depth, a) })
	}
	n, noNumber, noWeights := len(v.Args), v.N == 0, len(v.Weights) == 0
	switch part.Kind {
	case api.FId:
		return noNumber && noWeights && n == 1 && each(f, depth-1)
	case api.FConst:
		return 0 <= v.N && v.N < part.N && noWeights && n == 0
	case api.FProd:
		return noNumber && noWeights && n == 2 && isTree(f, part.Args[0], depth, v.Args[0]) && isTree(f, part.Args[1], depth, v.Args[1])
	case api.FSum:
		return (v.N == 0 || v.N == 1) && noWeights && n == 1 && each(part.Args[v.N], depth)
	case api.FExp:
		return noNumber && noWeights && n == part.N && each(part.Args[0], depth)
	}
	ordered := slices.IsSortedFunc(v.Args, value.Compare) && len(slices.CompactFunc(slices.Clone(v.Args), same)) == n
	if !noNumber || n > api.MaxArgs || !ordered || !each(part.Args[0], depth) {
		return false
	}
	if part.Kind == api.FPow {
		return noWeights
	}
	total, divisor := new(big.Int), new(big.Int)
	for _, w := range v.Weights {
		if w <= 0 {
			return false
		}
		total.Add(total, big.NewInt(int64(w)))
		divisor.GCD(nil, nil, divisor, big.NewInt(int64(w)))
	}
	isOne := divisor.Cmp(big.NewInt(1)) == 0
	return len(v.Weights) == n && total.Cmp(big.NewInt(api.MaxWeight)) <= 0 && (part.Kind == api.FBag || isOne)
}

// same reports whether two trees are equal, where nil and an empty slice are.
func same(u, v api.Value) bool {
	return u.N == v.N && slices.EqualFunc(u.Args, v.Args, same) && slices.Equal(u.Weights, v.Weights)
}

func isZero(v api.Value) bool { return v.N == 0 && v.Args == nil && v.Weights == nil }

func size(v api.Value) int {
	n := 1
	for _, a := range v.Args {
		n += size(a)
	}
	return n
}

// chain returns a system of 2 * X whose states are followed by each other; only the last one, which is followed by itself, has the output last.
func chain(n, last int) api.System {
	text := "type 2 * X\n"
	for x := range n {
		text += fmt.Sprintf("%d = (%d, %d)\n", x, last*(x/(n-1)), min(x+1, n-1))
	}
	return of(text)
}

// ring returns a system of 100 states that have different outputs, also from those of a ring with another shift.
func ring(shift int) api.System {
	text := "type 16 * (16 * X)\n"
	for x := range 100 {
		text += fmt.Sprintf("%d = (%d, (%d, %d))\n", x, x%16, x/16+shift, (x+1)%100)
	}
	return of(text)
}

// wide returns a system of (P(16) * 16) * X whose state 0 has, at depth 100, an unfolding with so many nodes, from 501 to 2101:
// it is followed by 99 other states, each one has 5 nodes and up to 16 more, and there is one at the end.
func wide(nodes int) api.System {
	text, left := "type (P(16) * 16) * X\n", nodes-501
	for x := range 100 {
		var set []string
		for i := range min(left, 16) {
			set = append(set, fmt.Sprint(i))
		}
		left -= len(set)
		text += fmt.Sprintf("%d = (({%s}, 0), %d)\n", x, strings.Join(set, ", "), min(x+1, 99))
	}
	return of(text)
}
