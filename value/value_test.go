package value

import (
	"fmt"
	"math"
	"reflect"
	"slices"
	"strings"
	"testing"

	"ectype/api"
	"ectype/functor"
)

// of returns the functor of a string.
func of(t *testing.T, s string) api.Functor {
	t.Helper()
	f, e := functor.Parse(s)
	if e != api.OK {
		t.Fatalf("%s is no functor", s)
	}
	return f
}

func at(n int) api.Value                      { return api.Value{N: n} }
func tree(n int, args ...api.Value) api.Value { return api.Value{N: n, Args: args} }
func list(args ...api.Value) api.Value        { return api.Value{Args: args} }
func weighed(weights []int, args ...api.Value) api.Value {
	return api.Value{Args: args, Weights: weights}
}
func within(n, weight int, args ...api.Value) api.Value {
	return api.Value{N: n, Args: args, Weights: []int{weight}}
}
func numbers(n ...int) []int  { return n }
func isZero(v api.Value) bool { return v.N == 0 && v.Args == nil && v.Weights == nil }

// same reports whether two trees are equal, where nil and an empty slice are.
func same(u, v api.Value) bool {
	return u.N == v.N && slices.EqualFunc(u.Args, v.Args, same) && slices.Equal(u.Weights, v.Weights)
}

// show returns a tree as a string, in which nil and an empty slice look alike.
func show(v api.Value) string {
	return fmt.Sprint(v)
}

// states returns as many states from 0 on.
func states(n int) []api.Value {
	l := make([]api.Value, n)
	for x := range l {
		l[x] = at(x)
	}
	return l
}

// grid returns the valid sets of X ^ 4, four of them, that have 2000 nodes together with the nodes above them, and so many more elements.
func grid(more int) api.Value {
	var sets []api.Value
	for _, n := range []int{100, 100, 100, 99 + more} {
		var l []api.Value
		for i := range n {
			l = append(l, list(at(0), at(0), at(i/10), at(i%10)))
		}
		sets = append(sets, list(l...))
	}
	return list(sets...)
}

const gridType = "P(X ^ 4) ^ 4"

func size(v api.Value) int {
	n := 1
	for _, a := range v.Args {
		n += size(a)
	}
	return n
}

// choices returns all lists that have one element of each of the lists.
func choices[E any](lists ...[]E) [][]E {
	if len(lists) == 0 {
		return [][]E{nil}
	}
	var l [][]E
	for _, rest := range choices(lists[1:]...) {
		for _, x := range lists[0] {
			l = append(l, append([]E{x}, rest...))
		}
	}
	return l
}

// times returns a list of n times the same element.
func times[E any](n int, x E) []E {
	return slices.Repeat([]E{x}, n)
}

// subsets returns all parts of the list, in its order.
func subsets(l []api.Value) [][]api.Value {
	if len(l) == 0 {
		return [][]api.Value{nil}
	}
	var all [][]api.Value
	for _, rest := range subsets(l[1:]) {
		all = append(all, rest, append([]api.Value{l[0]}, rest...))
	}
	return all
}

// valid returns all valid values of f over n states in increasing order of their elements, with weights of 1 and 2.
func valid(f api.Functor, n int) []api.Value {
	var parts [][]api.Value
	for _, a := range f.Args {
		parts = append(parts, valid(a, n))
	}
	var l []api.Value
	switch f.Kind {
	case api.FId:
		return states(n)
	case api.FConst:
		return states(f.N)
	case api.FProd:
		for _, a := range parts[0] {
			for _, b := range parts[1] {
				l = append(l, list(a, b))
			}
		}
	case api.FSum:
		for i, p := range parts {
			for _, a := range p {
				l = append(l, tree(i, a))
			}
		}
	case api.FExp:
		for _, c := range choices(times(f.N, parts[0])...) {
			l = append(l, list(c...))
		}
	default:
		for _, s := range subsets(parts[0]) {
			l = append(l, collections(f.Kind, s)...)
		}
	}
	return l
}

// collections returns all sets, multisets or distributions of the elements, with weights of 1 and 2.
func collections(kind int, s []api.Value) []api.Value {
	if kind == api.FPow {
		return []api.Value{list(s...)}
	}
	var l []api.Value
	for _, w := range choices(times(len(s), numbers(1, 2))...) {
		if kind == api.FBag || slices.Contains(w, 1) {
			l = append(l, weighed(w, s...))
		}
	}
	return l
}

// trees returns all trees with a depth of at most 2 and a few numbers, lengths and weights.
func trees() []api.Value {
	var leaves, all []api.Value
	for n := -1; n <= 2; n++ {
		leaves = append(leaves, at(n), within(n, 1))
	}
	lists := [][]api.Value{nil}
	for _, a := range leaves {
		lists = append(lists, []api.Value{a})
		for _, b := range leaves {
			lists = append(lists, []api.Value{a, b})
		}
	}
	weights := [][]int{nil, {0}, {1}, {2}, {1, 1}, {1, 2}, {2, 1}, {2, 2}, {0, 1}, {1, -1}, {1, 1, 1}}
	for n := -1; n <= 2; n++ {
		for _, args := range lists {
			for _, w := range weights {
				all = append(all, api.Value{N: n, Args: args, Weights: w})
			}
		}
	}
	return all
}

// flat has functors all of whose values are among the trees.
const flat = "X;1;2;X * X;X * 2;2 * X;X + 2;1 + X;X ^ 1;X ^ 2;2 ^ 2;P(X);P(1);P(2);B(X);B(1);B(2);D(X);D(1);D(2)"

func TestCheckOnAllSmallTrees(t *testing.T) {
	for _, s := range strings.Split(flat, ";") {
		for n := range 3 {
			f := of(t, s)
			want := map[string]bool{}
			for _, v := range valid(f, n) {
				want[show(v)] = true
			}
			for _, v := range trees() {
				e := Check(f, n, v)
				if (e == api.OK) != want[show(v)] || e != api.OK && e != api.ErrValue {
					t.Errorf("%s over %d: %v: %d", s, n, v, e)
				}
			}
		}
	}
}

func TestCheckOnDeepValues(t *testing.T) {
	for _, c := range []struct {
		f    string
		n    int
		v    api.Value
		want api.Errno
	}{
		{"2 * D(X)", 3, list(at(0), weighed(numbers(1, 2), at(1), at(2))), api.OK},
		{"2 * D(X)", 3, list(at(0), weighed(numbers(2, 2), at(1), at(2))), api.ErrValue},
		{"2 * D(X)", 3, list(at(0), weighed(numbers(1, 2), at(1), at(3))), api.ErrValue},
		{"2 * D(X)", 3, list(at(2), weighed(numbers(1), at(1))), api.ErrValue},
		{"2 * D(X)", 3, list(at(0), list()), api.ErrValue},
		{"X * P(X)", 0, list(at(0), list()), api.ErrValue},
		{"X * X", 2, list(at(0), at(1), at(0)), api.ErrValue},
		{"X + X", 2, tree(1, at(0), at(1), at(0)), api.ErrValue},
		{"X ^ 2", 2, list(at(0), at(1), at(0)), api.ErrValue},
		{"P(X)", 2, tree(1, at(0)), api.ErrValue},
		{"2 * P(X)", 0, list(at(0), list()), api.OK},
		{"2 * B(X)", 0, list(at(1), list()), api.OK},
		{"P(X * X)", 2, list(list(at(0), at(1)), list(at(1), at(0))), api.OK},
		{"P(X * X)", 2, list(list(at(1), at(0)), list(at(0), at(1))), api.ErrValue},
		{"P(X * X)", 2, list(list(at(1), at(0)), list(at(1), at(0))), api.ErrValue},
		{"P(P(X))", 2, list(list(), list(at(0)), list(at(0), at(1)), list(at(1))), api.OK},
		{"P(P(X))", 2, list(list(), list(at(0), at(1)), list(at(0)), list(at(1))), api.ErrValue},
		{"P(P(X))", 2, list(list(), list(at(1), at(0))), api.ErrValue},
		{"P(B(X))", 2, list(weighed(numbers(1), at(0)), weighed(numbers(2), at(0)), weighed(numbers(1), at(1))), api.OK},
		{"P(B(X))", 2, list(weighed(numbers(2), at(0)), weighed(numbers(1), at(0))), api.ErrValue},
		{"B(1 + P(X))", 2, weighed(numbers(7, 8), tree(0, at(0)), tree(1, list(at(0), at(1)))), api.OK},
		{"B(1 + P(X))", 2, weighed(numbers(7, 8), tree(1, list(at(0), at(1))), tree(0, at(0))), api.ErrValue},
		{"1 + X", 2, tree(0, at(1)), api.ErrValue},
		{"1 + X", 2, tree(1, at(1)), api.OK},
		{"(X ^ 2) ^ 3", 2, list(list(at(0), at(1)), list(at(1), at(1)), list(at(0), at(0))), api.OK},
		{"(X ^ 2) ^ 3", 2, list(list(at(0), at(1)), list(at(1)), list(at(0), at(0))), api.ErrValue},
		{"D(D(X))", 1, weighed(numbers(1), weighed(numbers(1), at(0))), api.OK},
		{"D(D(X))", 1, weighed(numbers(1), weighed(numbers(2), at(0))), api.ErrValue},
		{"D(X)", 3, weighed(numbers(6, 10, 15), at(0), at(1), at(2)), api.OK},
		{"D(X)", 3, weighed(numbers(6, 10, 14), at(0), at(1), at(2)), api.ErrValue},
		{"16", 0, at(15), api.OK},
		{"16", 0, at(16), api.ErrValue},
		{"X", 100, at(99), api.OK},
		{"X", 100, at(100), api.ErrValue},
		{"X", 100, at(math.MinInt), api.ErrValue},
		{"X", 100, at(math.MaxInt), api.ErrValue},
	} {
		if e := Check(of(t, c.f), c.n, c.v); e != c.want {
			t.Errorf("%s over %d: %v: %d, not %d", c.f, c.n, c.v, e, c.want)
		}
	}
}

func TestLimitsOfValues(t *testing.T) {
	many := states(100)
	pairs := func(n int) api.Value {
		var l []api.Value
		for i := range n {
			l = append(l, list(at(i/100), at(i%100)))
		}
		return list(l...)
	}
	const most = api.MaxWeight
	for _, c := range []struct {
		name, f string
		v       api.Value
		want    api.Errno
	}{
		{"MaxArgs states", "P(X)", list(many...), api.OK},
		{"MaxArgs pairs", "P(X * X)", pairs(100), api.OK},
		{"more pairs", "P(X * X)", pairs(101), api.ErrValue},
		{"MaxWeight", "B(X)", weighed(numbers(most), at(0)), api.OK},
		{"more than MaxWeight", "B(X)", weighed(numbers(most+1), at(0)), api.ErrValue},
		{"a sum of MaxWeight", "B(X)", weighed(numbers(1, most-1), at(0), at(1)), api.OK},
		{"a greater sum", "B(X)", weighed(numbers(1, most), at(0), at(1)), api.ErrValue},
		{"a sum that wraps around", "B(X)", weighed(numbers(math.MaxInt, math.MaxInt, 3), many[:3]...), api.ErrValue},
		{"a sum with a negative weight", "B(X)", weighed(numbers(most, -1), at(0), at(1)), api.ErrValue},
		{"the least weight", "B(X)", weighed(numbers(math.MinInt), at(0)), api.ErrValue},
		{"a probability of MaxWeight", "D(X)", weighed(numbers(1, most-1), at(0), at(1)), api.OK},
		{"a probability above it", "D(X)", weighed(numbers(1, most), at(0), at(1)), api.ErrValue},
		{"MaxNodes nodes", gridType, grid(0), api.OK},
		{"more nodes", gridType, grid(1), api.ErrValue},
		{"one node more", "P(" + gridType + ")", list(grid(0)), api.ErrValue},
		{"very many elements", "P(X)", list(make([]api.Value, 1<<22)...), api.ErrValue},
		{"very many weights", "B(X)", weighed(times(1<<22, 1), at(0)), api.ErrValue},
	} {
		if e := Check(of(t, c.f), 100, c.v); e != c.want {
			t.Errorf("%s: %d, not %d", c.name, e, c.want)
		}
	}
	if size(grid(0)) != api.MaxNodes {
		t.Errorf("the grid has %d nodes", size(grid(0)))
	}
}

// TestValuesThatShareMemory checks that time does not depend on the size of a tree that is given as a graph.
func TestValuesThatShareMemory(t *testing.T) {
	v := list(make([]api.Value, 100)...)
	for range 6 {
		v = list(times(100, v)...)
	}
	if e := Check(of(t, "P(P(P(P(P(P(P(X)))))))"), 1, v); e != api.ErrValue {
		t.Errorf("error %d", e)
	}
	if _, e := Normal(of(t, "P(P(P(P(P(P(P(X)))))))"), 1, v); e != api.ErrValue {
		t.Errorf("Normal: error %d", e)
	}
}

// TestWhichError checks the errors that all functions have in common, their order, and that the other results are zero values.
func TestWhichError(t *testing.T) {
	bad := api.Functor{Kind: api.FConst}
	good := of(t, "B(X)")
	no := weighed(numbers(1), at(0), at(1))
	for _, c := range []struct {
		name string
		f    api.Functor
		n    int
		v    api.Value
		want api.Errno
	}{
		{"functor", bad, 1, at(0), api.ErrFunctor},
		{"functor before number", bad, -1, no, api.ErrFunctor},
		{"negative", good, -1, list(), api.ErrArg},
		{"too many states", good, api.MaxStates + 1, list(), api.ErrArg},
		{"least number", good, math.MinInt, no, api.ErrArg},
		{"greatest number", good, math.MaxInt, no, api.ErrArg},
		{"value", good, 2, no, api.ErrValue},
		{"value without states", good, 0, weighed(numbers(1), at(0)), api.ErrValue},
	} {
		check := func(call string, e api.Errno, zero bool) {
			if e != c.want || !zero {
				t.Errorf("%s: %s: error %d, zero values: %v", c.name, call, e, zero)
			}
		}
		check("Check", Check(c.f, c.n, c.v), true)
		l, e := States(c.f, c.n, c.v)
		check("States", e, l == nil)
		v, e := Map(c.f, c.n, c.v, []int{-1})
		check("Map", e, isZero(v))
		v, e = Normal(c.f, c.n, c.v)
		check("Normal", e, isZero(v))
		s, e := String(c.f, c.n, c.v)
		check("String", e, s == "")
		if c.want != api.ErrValue {
			v, e = Parse(c.f, c.n, strings.Repeat("?", api.MaxText+1))
			check("Parse", e, isZero(v))
		}
	}
	for _, n := range []int{0, api.MaxStates} {
		if e := Check(good, n, list()); e != api.OK {
			t.Errorf("%d states: %d", n, e)
		}
	}
}

// ascending returns trees in strictly increasing order.
func ascending() []api.Value {
	return []api.Value{
		at(math.MinInt),
		tree(-1, at(5)),
		at(0),
		weighed(numbers(math.MinInt)),
		weighed(numbers(1)),
		weighed(numbers(1, 0)),
		weighed(numbers(1, 2)),
		weighed(numbers(2)),
		weighed(numbers(math.MaxInt)),
		list(at(-3)),
		list(at(0)),
		weighed(numbers(9), at(0)),
		list(at(0), at(-1)),
		list(at(0), at(0)),
		weighed(numbers(3), at(0), at(0)),
		weighed(numbers(3, 1), at(0), at(0)),
		weighed(numbers(4), at(0), at(0)),
		list(at(0), at(0), at(0)),
		list(at(0), at(1)),
		list(within(0, 1)),
		list(tree(0, at(0))),
		list(tree(0, at(0)), at(7)),
		list(tree(0, at(0), at(0))),
		list(at(1)),
		weighed(numbers(-9), at(1)),
		list(at(1), at(-9)),
		list(at(2)),
		at(1),
		within(1, 1),
		tree(1, at(0)),
		tree(1, at(1)),
		at(2),
		at(math.MaxInt),
	}
}

func TestCompare(t *testing.T) {
	l := ascending()
	for i, u := range l {
		for j, v := range l {
			want := 0
			if i < j {
				want = -1
			} else if i > j {
				want = 1
			}
			if c := Compare(u, v); c != want {
				t.Errorf("%v and %v: %d, not %d", u, v, c, want)
			}
		}
	}
	if c := Compare(at(0), api.Value{Args: []api.Value{}, Weights: []int{}}); c != 0 {
		t.Errorf("nil and an empty slice: %d", c)
	}
	long, longer := at(0), at(1)
	for range 1<<16 - 1 {
		long, longer = list(long), list(longer)
	}
	if Compare(long, longer) != -1 || Compare(longer, long) != 1 || Compare(long, long) != 0 {
		t.Error("deep trees")
	}
}

// TestTotalOrder checks that all pairs of the sorted trees are in the order, and that only equal ones compare as equal.
func TestTotalOrder(t *testing.T) {
	l := trees()
	slices.SortFunc(l, Compare)
	for i := 0; i < len(l); i += 7 {
		for j := range l {
			c := Compare(l[i], l[j])
			if c != -Compare(l[j], l[i]) || (c == 0) != same(l[i], l[j]) || c > 0 && i < j || c < 0 && i > j {
				t.Fatalf("%v and %v: %d", l[i], l[j], c)
			}
		}
	}
}

func TestStates(t *testing.T) {
	for _, c := range []struct {
		f    string
		v    api.Value
		want []int
	}{
		{"2 * D(X)", list(at(0), weighed(numbers(1, 2), at(1), at(2))), []int{1, 2}},
		{"3", at(2), nil},
		{"X", at(7), []int{7}},
		{"P(X)", list(), nil},
		{"X ^ 4", list(at(9), at(3), at(9), at(0)), []int{0, 3, 9}},
		{"X * X", list(at(5), at(4)), []int{4, 5}},
		{"8 + X", tree(0, at(6)), nil},
		{"8 + X", tree(1, at(6)), []int{6}},
		{"X + 8", tree(0, at(6)), []int{6}},
		{"P(2 * B(X))", list(list(at(0), weighed(numbers(3), at(8))), list(at(1), weighed(numbers(2, 1), at(1), at(8)))), []int{1, 8}},
	} {
		l, e := States(of(t, c.f), 10, c.v)
		if e != api.OK || !slices.Equal(l, c.want) {
			t.Errorf("%s: %v: %v %d, not %v", c.f, c.v, l, e, c.want)
		}
	}
	if l, e := States(of(t, "P(X)"), 100, list(states(100)...)); e != api.OK || len(l) != 100 || l[99] != 99 {
		t.Errorf("all states: %v %d", l, e)
	}
}

// TestMemoryOfStates checks that the argument is not changed, also beyond the lengths of its slices.
func TestMemoryOfStates(t *testing.T) {
	args := []api.Value{at(0), at(1), at(5), at(4)}
	weights := []int{1, 2, 0, -3}
	v := weighed(weights[:2], args[:2]...)
	f := of(t, "B(X)")
	if e := Check(f, 2, v); e != api.OK {
		t.Errorf("Check %d", e)
	}
	if l, e := States(f, 2, v); e != api.OK || !slices.Equal(l, []int{0, 1}) {
		t.Errorf("States %v %d", l, e)
	}
	if c := Compare(v, weighed(numbers(1, 2), at(0), at(1))); c != 0 {
		t.Errorf("Compare %d", c)
	}
	if s, e := String(f, 2, v); e != api.OK || s != "{0 : 1, 1 : 2}" {
		t.Errorf("String %q %d", s, e)
	}
	if !reflect.DeepEqual(args, []api.Value{at(0), at(1), at(5), at(4)}) || !slices.Equal(weights, []int{1, 2, 0, -3}) {
		t.Error("the argument was changed")
	}
}
