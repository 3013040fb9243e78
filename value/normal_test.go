package value

import (
	"fmt"
	"math"
	"reflect"
	"slices"
	"strings"
	"testing"

	"ectype/api"
)

// meaning returns what the value v of f stands for, as a string: sets and weights without order, repetition and common divisors.
func meaning(f api.Functor, v api.Value, to func(int) int) string {
	switch f.Kind {
	case api.FId:
		return fmt.Sprint("state ", to(v.N))
	case api.FConst:
		return fmt.Sprint("number ", v.N)
	}
	sum := map[string]int{}
	total := 0
	var l []string
	for i, a := range v.Args {
		part := f.Args[0]
		if f.Kind == api.FProd {
			part = f.Args[i]
		} else if f.Kind == api.FSum {
			part = f.Args[v.N]
		}
		l = append(l, meaning(part, a, to))
		if len(v.Weights) > 0 {
			sum[l[i]] += v.Weights[i]
			total += v.Weights[i]
		}
	}
	if f.Kind >= api.FPow {
		slices.Sort(l)
		l = slices.Compact(l)
	}
	for i, s := range l {
		switch f.Kind {
		case api.FBag:
			l[i] = fmt.Sprint(s, " times ", sum[s])
		case api.FDist:
			l[i] = fmt.Sprint(s, " by ", float64(sum[s])/float64(total))
		}
	}
	return fmt.Sprint(v.N, "<", strings.Join(l, ","), ">")
}

func itself(x int) int { return x }

// deep has functors whose valid values over two states are few enough to look at each of them.
const deep = flat + ";2 * D(X);P(X * X);P(1 + X);P(P(X));P(X ^ 2);B(X + 1);D(P(X));P(B(X));P(D(X));B(B(1));D(D(X));P(X) ^ 2;1 + (P(X) * X);(2 * X) ^ 2"

// shuffled returns values that Normal has to bring into the form of v: in the other order, with repetition, and with multiples of the weights.
func shuffled(f api.Functor, v api.Value) []api.Value {
	back, twice := backwards(f, v, 1, false), backwards(f, v, 1, true)
	l := []api.Value{v, back, twice}
	if f.Kind == api.FDist {
		l = append(l, backwards(f, v, 6, false), backwards(f, v, 35, true))
	}
	return l
}

// backwards returns v, in which elements are in reverse order and may occur twice, and the weights of a distribution are multiplied.
func backwards(f api.Functor, v api.Value, factor int, twice bool) api.Value {
	w := api.Value{N: v.N}
	for i, a := range v.Args {
		part := f.Args[0]
		if f.Kind == api.FProd {
			part = f.Args[i]
		} else if f.Kind == api.FSum {
			part = f.Args[v.N]
		}
		w.Args = append(w.Args, backwards(part, a, factor, twice))
	}
	w.Weights = slices.Clone(v.Weights)
	if f.Kind == api.FDist {
		for i := range w.Weights {
			w.Weights[i] *= factor
		}
	}
	if f.Kind < api.FPow {
		return w
	}
	slices.Reverse(w.Args)
	slices.Reverse(w.Weights)
	if twice && (f.Kind != api.FBag || len(w.Args) == 0) {
		w.Args = append(w.Args, w.Args...)
		w.Weights = append(w.Weights, w.Weights...)
	}
	return w
}

func TestNormalOfAllSmallValues(t *testing.T) {
	for _, s := range strings.Split(deep, ";") {
		f := of(t, s)
		for _, u := range valid(f, 2) {
			v, e := Normal(f, 2, u)
			if e != api.OK || Check(f, 2, v) != api.OK || meaning(f, v, itself) != meaning(f, u, itself) {
				t.Errorf("%s: %v: %v %d", s, u, v, e)
			}
			again, e := Normal(f, 2, v)
			if e != api.OK || !same(again, v) {
				t.Errorf("%s: %v: %v %d", s, v, again, e)
			}
			for _, w := range shuffled(f, v) {
				again, e := Normal(f, 2, w)
				if e != api.OK || !same(again, v) {
					t.Errorf("%s: %v: %v %d, not %v", s, w, again, e, v)
				}
			}
		}
	}
}

func TestNormal(t *testing.T) {
	for _, c := range []struct {
		f       string
		v, want api.Value
	}{
		{"2 * D(X)", list(at(0), weighed(numbers(4, 1, 1), at(2), at(1), at(1))), list(at(0), weighed(numbers(1, 2), at(1), at(2)))},
		{"P(X)", list(at(2), at(1), at(2), at(0), at(1)), list(at(0), at(1), at(2))},
		{"B(X)", weighed(numbers(2, 4, 6), at(2), at(1), at(2)), weighed(numbers(4, 8), at(1), at(2))},
		{"D(X)", weighed(numbers(2, 4, 6), at(2), at(1), at(2)), weighed(numbers(1, 2), at(1), at(2))},
		{"D(X)", weighed(numbers(7), at(2)), weighed(numbers(1), at(2))},
		{"D(X)", weighed(numbers(5, 5, 5), at(2), at(2), at(2)), weighed(numbers(1), at(2))},
		// elements that become equal only in normal form
		{"P(P(X))", list(list(at(1), at(0)), list(at(0), at(1)), list(at(0), at(1), at(1))), list(list(at(0), at(1)))},
		{"B(P(X))", weighed(numbers(1, 2), list(at(1), at(1)), list(at(1))), weighed(numbers(3), list(at(1)))},
		{"P(D(X))", list(weighed(numbers(3, 3), at(0), at(1)), weighed(numbers(2, 2), at(1), at(0))), list(weighed(numbers(1, 1), at(0), at(1)))},
		{"D(B(X))", weighed(numbers(2, 2), weighed(numbers(1, 1), at(0), at(0)), weighed(numbers(2), at(0))), weighed(numbers(1), weighed(numbers(2), at(0)))},
		// elements whose order changes
		{"P(P(X))", list(list(at(1)), list(at(2), at(0))), list(list(at(0), at(2)), list(at(1)))},
		{"P(1 + P(X))", list(tree(1, list(at(1), at(0))), tree(0, at(0)), tree(1, list())), list(tree(0, at(0)), tree(1, list()), tree(1, list(at(0), at(1))))},
		{"X ^ 3", list(at(2), at(1), at(2)), list(at(2), at(1), at(2))},
		{"X * P(X)", list(at(2), list(at(2), at(1))), list(at(2), list(at(1), at(2)))},
	} {
		if v, e := Normal(of(t, c.f), 3, c.v); e != api.OK || !same(v, c.want) {
			t.Errorf("%s: %v: %v %d, not %v", c.f, c.v, v, e, c.want)
		}
	}
}

// TestNormalOfOtherTrees checks on all small trees that Normal refuses those that are not valid for another reason than the order.
func TestNormalOfOtherTrees(t *testing.T) {
	for _, s := range strings.Split(flat, ";") {
		for n := range 3 {
			f := of(t, s)
			for _, v := range trees() {
				w, e := Normal(f, n, v)
				if sorted := inOrder(f, v); Check(f, n, sorted) == api.OK {
					if e != api.OK || !same(w, sorted) {
						t.Errorf("%s over %d: %v: %v %d", s, n, v, w, e)
					}
				} else if e != api.ErrValue || !isZero(w) {
					t.Errorf("%s over %d: %v: %v %d", s, n, v, w, e)
				}
			}
		}
	}
}

// inOrder returns the small tree v with its at most two elements in order, if their number is that of the weights.
func inOrder(f api.Functor, v api.Value) api.Value {
	if f.Kind < api.FPow || f.Kind > api.FPow && len(v.Args) != len(v.Weights) || slices.ContainsFunc(v.Weights, func(w int) bool { return w < 1 }) {
		return v
	}
	w := api.Value{N: v.N, Args: slices.Clone(v.Args), Weights: slices.Clone(v.Weights)}
	if len(w.Args) == 2 && Compare(w.Args[0], w.Args[1]) == 0 {
		w.Args = w.Args[:1]
		if len(w.Weights) == 2 {
			w.Weights = numbers(w.Weights[0] + w.Weights[1])
		}
	} else if len(w.Args) == 2 && Compare(w.Args[0], w.Args[1]) > 0 {
		slices.Reverse(w.Args)
		slices.Reverse(w.Weights)
	}
	if f.Kind == api.FDist && len(w.Weights) == 1 {
		w.Weights = numbers(1)
	} else if f.Kind == api.FDist && slices.Equal(w.Weights, numbers(2, 2)) {
		w.Weights = numbers(1, 1)
	}
	return w
}

// repeated returns n elements, of which the first ones are different.
func repeated(n, different int) []api.Value {
	var l []api.Value
	for i := range n {
		l = append(l, list(at(i%different/100), at(i%different%100)))
	}
	return l
}

func TestLimitsOfNormal(t *testing.T) {
	const most = api.MaxWeight
	inner := list(repeated(101, 101)...)
	for _, c := range []struct {
		name, f string
		v       api.Value
		want    api.Errno
		size    int
	}{
		{"more elements that are equal", "P(X * X)", list(repeated(600, 100)...), api.OK, 301},
		{"more elements", "P(X * X)", list(repeated(600, 101)...), api.ErrLarge, 0},
		{"just as many", "P(X * X)", list(repeated(101, 101)...), api.ErrLarge, 0},
		{"multiset of equal ones", "B(X)", weighed(times(1999, 3), times(1999, at(4))...), api.OK, 2},
		{"multiset with more elements", "B(X * X)", weighed(times(101, 3), repeated(101, 101)...), api.ErrLarge, 0},
		{"distribution of equal ones", "D(X)", weighed(times(1999, 3), times(1999, at(4))...), api.OK, 2},
		{"distribution with more elements", "D(X * X)", weighed(times(101, 3), repeated(101, 101)...), api.ErrLarge, 0},
		{"more elements within", "X * P(X * X)", list(at(0), inner), api.ErrLarge, 0},
		{"more elements within an element", "P(P(X * X))", list(inner, list(), inner), api.ErrLarge, 0},
		{"value before large", "X * P(X * X)", list(at(100), inner), api.ErrValue, 0},
		{"value after large", "P(X * X) * X", list(inner, at(100)), api.ErrValue, 0},
		{"MaxNodes nodes", "P(X)", list(make([]api.Value, api.MaxNodes-1)...), api.OK, 2},
		{"more nodes", "P(X)", list(make([]api.Value, api.MaxNodes)...), api.ErrValue, 0},
		{"more nodes within", gridType, grid(1), api.ErrValue, 0},
		{"value before many nodes", "P(X)", list(make([]api.Value, 1<<22)...), api.ErrValue, 0},
		{"a sum of MaxWeight", "B(X)", weighed(numbers(most-1, 1), at(0), at(0)), api.OK, 2},
		{"a greater sum", "B(X)", weighed(numbers(most-1, 2), at(0), at(0)), api.ErrValue, 0},
		{"probabilities with a sum of MaxWeight", "D(X)", weighed(numbers(most/2, most/2), at(0), at(1)), api.OK, 3},
		{"probabilities with a greater sum", "D(X)", weighed(numbers(most, most), at(0), at(1)), api.ErrValue, 0},
		{"a sum that wraps around", "D(X)", weighed(numbers(math.MaxInt, math.MaxInt, 4), states(3)...), api.ErrValue, 0},
		{"no probability", "D(X)", list(), api.ErrValue, 0},
		{"a weight of 0", "B(X)", weighed(numbers(0, 1), at(0), at(0)), api.ErrValue, 0},
		{"a negative weight", "D(X)", weighed(numbers(-1, 3), at(0), at(0)), api.ErrValue, 0},
		{"a weight in a set", "P(X)", within(0, 1, at(0)), api.ErrValue, 0},
		{"a weight too many", "B(X)", weighed(numbers(1, 1), at(0)), api.ErrValue, 0},
	} {
		v, e := Normal(of(t, c.f), 100, c.v)
		if e != c.want || e == api.OK && size(v) != c.size || e != api.OK && !isZero(v) {
			t.Errorf("%s: %d with %d nodes, not %d with %d", c.name, e, size(v), c.want, c.size)
		}
	}
}

func TestMap(t *testing.T) {
	for _, c := range []struct {
		f       string
		v, want api.Value
	}{
		{"X", at(1), at(4)},
		{"X", at(0), at(99)},
		{"2 * X", list(at(1), at(1)), list(at(1), at(4))},
		{"X ^ 3", list(at(2), at(1), at(0)), list(at(4), at(4), at(99))},
		{"X + 3", tree(0, at(2)), tree(0, at(4))},
		{"X + 3", tree(1, at(2)), tree(1, at(2))},
		{"P(X)", list(), list()},
		{"P(X)", list(at(0), at(1), at(2), at(3)), list(at(0), at(4), at(99))},
		{"B(X)", weighed(numbers(2, 4, 6, 8), at(0), at(1), at(2), at(3)), weighed(numbers(8, 10, 2), at(0), at(4), at(99))},
		{"D(X)", weighed(numbers(2, 1, 1), at(0), at(1), at(2)), weighed(numbers(1, 1), at(4), at(99))},
		{"D(X)", weighed(numbers(2, 5), at(1), at(2)), weighed(numbers(1), at(4))},
		{"P(X * X)", list(list(at(0), at(1)), list(at(0), at(2)), list(at(3), at(0))), list(list(at(0), at(99)), list(at(99), at(4)))},
		{"P(P(X))", list(list(at(0), at(1)), list(at(0), at(2)), list(at(1), at(2))), list(list(at(4)), list(at(4), at(99)))},
		{"D(P(X))", weighed(numbers(1, 3), list(at(1)), list(at(2))), weighed(numbers(1), list(at(4)))},
		{"P(B(X))", list(weighed(numbers(2), at(1)), weighed(numbers(1, 1), at(1), at(2))), list(weighed(numbers(2), at(4)))},
		{"P(D(X))", list(weighed(numbers(1), at(1)), weighed(numbers(1, 1), at(1), at(2))), list(weighed(numbers(1), at(4)))},
	} {
		if v, e := Map(of(t, c.f), 4, c.v, numbers(99, 4, 4, 0)); e != api.OK || !same(v, c.want) {
			t.Errorf("%s: %v: %v %d, not %v", c.f, c.v, v, e, c.want)
		}
	}
}

func TestErrorsOfMap(t *testing.T) {
	f := of(t, "P(X)")
	all := make([]int, api.MaxStates)
	all[3] = api.MaxStates - 1
	for _, c := range []struct {
		name string
		n    int
		v    api.Value
		to   []int
		want api.Errno
	}{
		{"no states", 0, list(), nil, api.OK},
		{"all states", api.MaxStates, list(at(3)), all, api.OK},
		{"fewer images", 2, list(at(0)), numbers(0), api.ErrArg},
		{"more images", 2, list(at(0)), numbers(0, 1, 0), api.ErrArg},
		{"an image for no state", 0, list(), numbers(0), api.ErrArg},
		{"nil", 1, list(), nil, api.ErrArg},
		{"negative", 2, list(at(0)), numbers(0, -1), api.ErrArg},
		{"MaxStates", 2, list(at(0)), numbers(0, api.MaxStates), api.ErrArg},
		{"least", 2, list(at(0)), numbers(math.MinInt, 0), api.ErrArg},
		{"greatest", 2, list(at(0)), numbers(math.MaxInt, 0), api.ErrArg},
		{"value first", 2, list(at(2)), numbers(0, -1), api.ErrValue},
		{"order first", 2, list(at(1), at(0)), nil, api.ErrValue},
	} {
		v, e := Map(f, c.n, c.v, c.to)
		if e != c.want || e != api.OK && !isZero(v) {
			t.Errorf("%s: %v %d, not %d", c.name, v, e, c.want)
		}
	}
}

// TestMapOnAllSmallValues checks that images are valid and stand for what they should, and that Map preserves identity and composition.
func TestMapOnAllSmallValues(t *testing.T) {
	maps := choices(times(2, numbers(0, 1))...)
	for _, s := range strings.Split(deep, ";") {
		f := of(t, s)
		for _, u := range valid(f, 2) {
			v, _ := Normal(f, 2, u)
			if w, e := Map(f, 2, v, numbers(0, 1)); e != api.OK || !same(v, w) {
				t.Errorf("%s: the identity maps %v to %v %d", s, v, w, e)
			}
			for _, g := range maps {
				w, e := Map(f, 2, v, g)
				if e != api.OK || Check(f, 2, w) != api.OK || meaning(f, w, itself) != meaning(f, v, func(x int) int { return g[x] }) {
					t.Errorf("%s: %v maps %v to %v %d", s, g, v, w, e)
				}
				for _, h := range maps {
					one, _ := Map(f, 2, w, h)
					other, e := Map(f, 2, v, numbers(h[g[0]], h[g[1]]))
					if e != api.OK || !same(one, other) {
						t.Errorf("%s: %v maps %v to %v, then %v to %v, not %v", s, g, v, w, h, one, other)
					}
				}
			}
		}
	}
}

// TestMemoryOfResults checks that results are new memory, and that arguments are not changed, also beyond the lengths of their slices.
func TestMemoryOfResults(t *testing.T) {
	f := of(t, "P(X ^ 2) * D(X)")
	build := func() api.Value {
		set := append(make([]api.Value, 0, 4), list(at(1), at(0)), list(at(0), at(1)), list(at(1), at(0)))
		extra := append(make([]int, 0, 4), 2, 2, 77)
		return list(list(set...), weighed(extra[:2], at(1), at(0)))
	}
	v := build()
	to := []int{0, 1, 1}
	n, e := Normal(f, 2, v)
	if e != api.OK || !same(v, build()) || v.Args[1].Weights[:3][2] != 77 {
		t.Errorf("Normal %d changed its argument to %v", e, v)
	}
	m, e := Map(f, 2, n, to[:2])
	if e != api.OK || !same(m, n) || !slices.Equal(to, []int{0, 1, 1}) {
		t.Errorf("Map %d: %v, %v", e, m, to)
	}
	p, e := Parse(f, 2, "({[0, 1], [1, 0]}, {0 : 1, 1 : 1})")
	if e != api.OK || !same(p, n) {
		t.Errorf("Parse %v %d", p, e)
	}
	seen := map[uintptr]bool{}
	for _, u := range []api.Value{v, n, m, p} {
		newMemory(t, u, seen)
	}
}

// newMemory checks that no list of v, up to its capacity, begins where a list seen before begins.
func newMemory(t *testing.T, v api.Value, seen map[uintptr]bool) {
	t.Helper()
	for _, l := range []any{v.Args, v.Weights} {
		if r := reflect.ValueOf(l); r.Cap() > 0 {
			if seen[r.Pointer()] {
				t.Errorf("shared memory: %v", l)
			}
			seen[r.Pointer()] = true
		}
	}
	for _, a := range v.Args {
		newMemory(t, a, seen)
	}
}
