package unfold

import (
	"math"
	"reflect"
	"slices"
	"strings"
	"testing"

	"ectype/api"
	"ectype/functor"
	"ectype/value"
)

func num(n int, args ...api.Value) api.Value { return api.Value{N: n, Args: args} }
func args(l ...api.Value) api.Value          { return api.Value{Args: l} }
func weighed(weights []int, l ...api.Value) api.Value {
	return api.Value{Args: l, Weights: weights}
}

// dot is what stands in the place of a state at depth 1.
var dot = args(api.Value{})

func TestCheck(t *testing.T) {
	set := func(n int) (l []api.Value) {
		for i := range n {
			l = append(l, args(num(i%10), args(num(i/10%10), num(i/100))))
		}
		slices.SortFunc(l, value.Compare)
		return l
	}
	for _, c := range []struct {
		name, f string
		depth   int
		v       api.Value
		ok      bool
	}{
		{"nothing", "X", 0, api.Value{}, true},
		{"nothing, whatever the functor", "16", 0, api.Value{}, true},
		{"empty slices", "D(X)", 0, api.Value{Args: []api.Value{}, Weights: []int{}}, true},
		{"a number at depth 0", "3", 0, num(1), false},
		{"an argument at depth 0", "X", 0, dot, false},
		{"a weight at depth 0", "X", 0, weighed([]int{1}), false},
		{"no argument at depth 1", "X", 1, api.Value{}, false},
		{"one step", "X", 1, dot, true},
		{"two steps", "X", 2, args(dot), true},
		{"too many steps", "X", 1, args(dot), false},
		{"too few steps", "X", 3, args(dot), false},
		{"a state", "X", 1, num(1), false},
		{"a state beside an unfolding", "X", 1, num(1, api.Value{}), false},
		{"two unfoldings", "X", 1, args(api.Value{}, api.Value{}), false},
		{"a weight of an unfolding", "X", 1, weighed([]int{1}, api.Value{}), false},
		{"a number inside", "X", 1, args(num(1)), false},
		{"an output", "3", 7, num(2), true},
		{"a large output", "3", 7, num(3), false},
		{"a negative output", "3", 7, num(-1), false},
		{"a pair", "2 * X", 1, args(num(1), dot), true},
		{"a pair with a state", "2 * X", 1, args(num(1), num(0)), false},
		{"a pair of depths", "X * X", 2, args(args(args(dot, dot)), args(args(dot, dot))), true},
		{"a pair of different depths", "X * X", 2, args(args(args(dot, dot)), dot), false},
		{"a triple", "X * X", 1, args(dot, dot, dot), false},
		{"a left part", "1 + X", 1, num(0, num(0)), true},
		{"a right part", "1 + X", 1, num(1, dot), true},
		{"the wrong part", "1 + X", 1, num(0, dot), false},
		{"a third part", "1 + X", 1, num(2, dot), false},
		{"a negative part", "1 + X", 1, num(-1, dot), false},
		{"a part that is missing", "1 + X", 1, num(1), false},
		{"a list", "X ^ 2", 1, args(dot, dot), true},
		{"a short list", "X ^ 2", 1, args(dot), false},
		{"a long list", "X ^ 2", 1, args(dot, dot, dot), false},
		{"an empty set", "P(X)", 1, api.Value{}, true},
		{"a set", "P(X)", 1, args(dot), true},
		{"equal elements", "P(X)", 1, args(dot, dot), false},
		{"elements in order", "P(X)", 2, args(args(api.Value{}), args(args(dot))), true},
		{"elements in another order", "P(X)", 2, args(args(args(dot)), args(api.Value{})), false},
		{"equal elements in unfoldings", "P(X)", 2, args(args(args(dot, dot))), false},
		{"a set with weights", "P(X)", 1, weighed([]int{1}, dot), false},
		{"a set with a number", "P(X)", 1, num(1, dot), false},
		{"an empty multiset", "B(X)", 1, api.Value{}, true},
		{"a multiset", "B(X)", 1, weighed([]int{api.MaxWeight}, dot), true},
		{"a multiset without weights", "B(X)", 1, args(dot), false},
		{"a multiset with more weights", "B(X)", 1, weighed([]int{1, 1}, dot), false},
		{"a weight of 0", "B(X)", 1, weighed([]int{0}, dot), false},
		{"a negative weight", "B(X)", 1, weighed([]int{-1}, dot), false},
		{"a large weight", "B(X)", 1, weighed([]int{api.MaxWeight + 1}, dot), false},
		{"a large sum", "B(X)", 2, weighed([]int{1, api.MaxWeight}, args(api.Value{}), args(weighed([]int{1}, dot))), false},
		{"a sum beyond int", "B(X)", 2, weighed([]int{math.MaxInt, math.MaxInt}, args(api.Value{}), args(weighed([]int{1}, dot))), false},
		{"a sum of MaxWeight", "B(X)", 2, weighed([]int{1, api.MaxWeight - 1}, args(api.Value{}), args(weighed([]int{1}, dot))), true},
		{"a common divisor in a multiset", "B(X)", 1, weighed([]int{2}, dot), true},
		{"an empty distribution", "D(X)", 1, api.Value{}, false},
		{"a distribution", "D(X)", 1, weighed([]int{1}, dot), true},
		{"a common divisor", "D(X)", 1, weighed([]int{2}, dot), false},
		{"a common divisor of two", "D(2 * X)", 1, weighed([]int{4, 6}, args(num(0), dot), args(num(1), dot)), false},
		{"no common divisor", "D(2 * X)", 1, weighed([]int{4, 9}, args(num(0), dot), args(num(1), dot)), true},
		{"MaxArgs elements", "P(16 * (16 * 16))", 1, args(set(api.MaxArgs)...), true},
		{"more than MaxArgs elements", "P(16 * (16 * 16))", 1, args(set(api.MaxArgs + 1)...), false},
		{"far more elements", "P(16 * (16 * 16))", 1, args(make([]api.Value, 1<<20)...), false},
		{"100 steps", "X", 100, steps(100), true},
		{"one step less", "X", 100, steps(99), false},
		{"one step more", "X", 100, steps(101), false},
	} {
		want := api.OK
		if !c.ok {
			want = api.ErrValue
		}
		if e := Check(typed(c.f), c.depth, c.v); e != want {
			t.Errorf("%s: error %d, not %d", c.name, e, want)
		}
	}
}

// steps returns the unfolding of X to a depth.
func steps(depth int) (v api.Value) {
	for range depth {
		v = args(v)
	}
	return v
}

// TestCheckSize adds nodes to a tree that has MaxNodes nodes, without changing whether it is an unfolding.
func TestCheckSize(t *testing.T) {
	s := wide(api.MaxNodes)
	add := func(v *api.Value) {
		last := &v.Args[0].Args[0].Args
		*last = append(*last, num(len(*last)))
	}
	v := must(Unfold(s, 0, 100))
	if e := Check(s.Functor, 100, v); e != api.OK || size(v) != api.MaxNodes {
		t.Fatalf("MaxNodes: %d nodes, error %d", size(v), e)
	}
	inner := &v
	for len(inner.Args[0].Args[0].Args) == 16 {
		inner = &inner.Args[1].Args[0]
	}
	add(inner)
	if e := Check(s.Functor, 100, v); e != api.ErrValue || !isTree(s.Functor, s.Functor, 100, v) {
		t.Errorf("%d nodes: error %d", size(v), e)
	}
	if w, e := Cut(s.Functor, 100, v, 1); e != api.ErrValue || !isZero(w) {
		t.Errorf("Cut of %d nodes: error %d", size(v), e)
	}
	if text, e := String(s.Functor, 100, v); e != api.ErrValue || text != "" {
		t.Errorf("String of %d nodes: error %d", size(v), e)
	}
}

// mutants returns trees that differ from v at one node.
func mutants(v api.Value) []api.Value {
	var l []api.Value
	add := func(n int, args []api.Value, weights []int) {
		l = append(l, api.Value{N: n, Args: args, Weights: weights})
	}
	for _, n := range []int{v.N + 1, v.N - 1, math.MaxInt, math.MinInt} {
		add(n, v.Args, v.Weights)
	}
	double := slices.Clone(v.Weights)
	for i := range double {
		double[i] *= 2
	}
	add(v.N, v.Args, double)
	for _, w := range []int{0, 1, 7, -1, api.MaxWeight} {
		add(v.N, v.Args, append(slices.Clone(v.Weights), w))
		for i := range v.Weights {
			changed := slices.Clone(v.Weights)
			changed[i] = w
			add(v.N, v.Args, changed)
		}
	}
	add(v.N, append(slices.Clone(v.Args), api.Value{}), v.Weights)
	add(v.N, slices.Insert(slices.Clone(v.Args), 0, api.Value{}), v.Weights)
	backwards := slices.Clone(v.Args)
	slices.Reverse(backwards)
	add(v.N, backwards, v.Weights)
	for i, a := range v.Args {
		without := slices.Delete(slices.Clone(v.Args), i, i+1)
		add(v.N, without, v.Weights)
		if len(v.Weights) > 0 {
			add(v.N, without, slices.Delete(slices.Clone(v.Weights), i, i+1))
			add(v.N, slices.Insert(slices.Clone(v.Args), i, a), slices.Insert(slices.Clone(v.Weights), i, 1))
		}
		add(v.N, slices.Insert(slices.Clone(v.Args), i, a), v.Weights)
		l = append(l, a)
		for _, m := range mutants(a) {
			changed := slices.Clone(v.Args)
			changed[i] = m
			add(v.N, changed, v.Weights)
		}
	}
	return l
}

// TestCheckOfMutants checks unfoldings, and trees that are nearly unfoldings, against the definition.
func TestCheckOfMutants(t *testing.T) {
	valid, invalid := 0, 0
	for _, text := range kinds {
		s := of(text)
		for x := range s.Next {
			for depth := range 4 {
				for _, m := range mutants(must(Unfold(s, x, depth))) {
					for d := max(0, depth-1); d <= depth+1; d++ {
						want := api.ErrValue
						if isTree(s.Functor, s.Functor, d, m) {
							want = api.OK
							valid++
						} else {
							invalid++
						}
						if e := Check(s.Functor, d, m); e != want {
							t.Fatalf("%q: depth %d: %v: error %d, not %d", text, d, m, e, want)
						}
					}
				}
			}
		}
	}
	if valid < 500 || invalid < 500 {
		t.Errorf("%d valid and %d invalid trees", valid, invalid)
	}
}

// TestErrorsOfTrees checks the order of the errors of the functions of a tree.
func TestErrorsOfTrees(t *testing.T) {
	good, bad := typed("2 * X"), api.Functor{Kind: api.FConst}
	v := args(num(1), dot)
	for _, c := range []struct {
		name  string
		f     api.Functor
		depth int
		v     api.Value
		want  api.Errno
	}{
		{"functor", bad, 1, v, api.ErrFunctor},
		{"functor of no kind", api.Functor{Kind: 9}, 0, api.Value{}, api.ErrFunctor},
		{"functor, depth and value", bad, -1, num(9), api.ErrFunctor},
		{"negative depth", good, -1, v, api.ErrArg},
		{"depth", good, api.MaxRounds + 1, v, api.ErrArg},
		{"greatest depth", good, math.MaxInt, v, api.ErrArg},
		{"least depth and value", good, math.MinInt, num(9), api.ErrArg},
		{"value", good, 1, num(9), api.ErrValue},
		{"value of another depth", good, 100, v, api.ErrValue},
		{"none", good, 1, v, api.OK},
	} {
		if e := Check(c.f, c.depth, c.v); e != c.want {
			t.Errorf("Check: %s: error %d, not %d", c.name, e, c.want)
		}
		if text, e := String(c.f, c.depth, c.v); e != c.want || (text == "") != (e != api.OK) {
			t.Errorf("String: %s: %q %d, not %d", c.name, text, e, c.want)
		}
		for _, less := range []int{c.depth, c.depth + 1, -1, 0, 1, 101, math.MaxInt, math.MinInt} {
			want := c.want
			if want == api.OK && (less < 0 || less > c.depth) {
				want = api.ErrArg
			}
			if w, e := Cut(c.f, c.depth, c.v, less); e != want || e != api.OK && !isZero(w) {
				t.Errorf("Cut: %s: to %d: %v %d, not %d", c.name, less, w, e, want)
			}
		}
	}
}

func TestCut(t *testing.T) {
	for _, c := range []struct {
		system         string
		x, depth, less int
		want           string
	}{
		{coins, 0, 2, 2, "(0, {(1, {. : 1}) : 1})"},
		{coins, 0, 2, 1, "(0, {. : 1})"},
		{coins, 0, 2, 0, "."},
		{coins, 0, 0, 0, "."},
		{coins, 0, 100, 1, "(0, {. : 1})"},
		{"type 3\n0 = 2\n", 0, 5, 1, "2"},
		{"type 3\n0 = 2\n", 0, 5, 0, "."},
		{"type P(X)\n0 = {0, 1}\n1 = {}\n", 0, 2, 1, "{.}"},
		{"type P(X)\n0 = {0, 1}\n1 = {}\n", 0, 3, 2, "{{}, {.}}"},
		{"type B(X)\n0 = {0 : 2, 1 : 3}\n1 = {}\n", 0, 2, 1, "{. : 5}"},
		{"type B(X)\n0 = {0 : 2, 1 : 3}\n1 = {}\n", 0, 3, 2, "{{} : 3, {. : 5} : 2}"},
		{"type 2 * D(X)\n0 = (0, {0 : 1, 1 : 2, 2 : 3})\n1 = (1, {1 : 1})\n2 = (0, {1 : 1})\n", 0, 3, 2, "(0, {(0, {. : 1}) : 2, (1, {. : 1}) : 1})"},
		{"type P(X * 2)\n0 = {(1, 0), (2, 1)}\n1 = {(0, 0), (0, 1)}\n2 = {}\n", 0, 2, 1, "{(., 0), (., 1)}"},
	} {
		s := of(c.system)
		w := must(Cut(s.Functor, c.depth, must(Unfold(s, c.x, c.depth)), c.less))
		if got := must(String(s.Functor, c.less, w)); got != c.want {
			t.Errorf("%q: %d from depth %d to %d: %s, not %s", c.system, c.x, c.depth, c.less, got, c.want)
		}
	}
}

// TestCutOfUnfoldings checks that Cut of Unfold is Unfold to the smaller depth.
func TestCutOfUnfoldings(t *testing.T) {
	systems := small()
	for _, text := range kinds {
		systems[text] = []api.System{of(text)}
	}
	for name, l := range systems {
		for _, s := range l {
			for x := range s.Next {
				v := must(Unfold(s, x, 3))
				for less := range 4 {
					w, e := Cut(s.Functor, 3, v, less)
					if e != api.OK || !same(w, must(Unfold(s, x, less))) {
						t.Fatalf("%q: %v: %d to depth %d: %v %d", name, s.Next, x, less, w, e)
					}
				}
			}
		}
	}
	s, most := of(swing), wide(api.MaxNodes)
	deep, large := must(Unfold(s, 0, 100)), must(Unfold(most, 0, 100))
	for less := range 101 {
		if !same(must(Cut(s.Functor, 100, deep, less)), must(Unfold(s, 0, less))) {
			t.Errorf("the order at depth %d", less)
		}
	}
	for _, less := range []int{0, 1, 50, 99, 100} {
		if !same(must(Cut(most.Functor, 100, large, less)), must(Unfold(most, 0, less))) {
			t.Errorf("MaxNodes nodes to depth %d", less)
		}
	}
}

func TestString(t *testing.T) {
	for _, c := range []struct {
		f     string
		depth int
		v     api.Value
		want  string
	}{
		{"X", 0, api.Value{}, "."},
		{"X", 1, dot, "."},
		{"X", 100, steps(100), "."},
		{"16", 1, num(15), "15"},
		{"2 * X", 1, args(num(1), dot), "(1, .)"},
		{"1 + X", 1, num(0, num(0)), "l 0"},
		{"1 + X", 2, num(1, args(num(1, dot))), "r r ."},
		{"X + X", 2, num(0, args(num(1, dot))), "l r ."},
		{"X ^ 1", 1, args(dot), "[.]"},
		{"X ^ 3", 1, args(dot, dot, dot), "[., ., .]"},
		{"P(X)", 1, args(), "{}"},
		{"P(X)", 2, args(args(args()), args(args(dot))), "{{}, {.}}"},
		{"B(X)", 1, args(), "{}"},
		{"B(X)", 1, weighed([]int{12}, dot), "{. : 12}"},
		{"D(2 * X)", 1, weighed([]int{4, 9}, args(num(0), dot), args(num(1), dot)), "{(0, .) : 4, (1, .) : 9}"},
		{"P(B(X) ^ 2)", 1, args(args(args(), weighed([]int{1}, dot))), "{[{}, {. : 1}]}"},
	} {
		if text, e := String(typed(c.f), c.depth, c.v); e != api.OK || text != c.want {
			t.Errorf("%s: %q %d, not %q", c.f, text, e, c.want)
		}
	}
	// At depth 1 the string is that of a value over one state.
	for _, text := range kinds {
		s := of(text)
		f := strings.NewReplacer("0", "a", "1", "b", "2", "c")
		for x, v := range s.Next {
			one := must(value.Map(s.Functor, len(s.Next), v, make([]int, len(s.Next))))
			want := f.Replace(must(value.String(s.Functor, 1, one)))
			got := f.Replace(must(String(s.Functor, 1, must(Unfold(s, x, 1)))))
			if strings.ReplaceAll(got, ".", "a") != want {
				t.Errorf("%q: %d: %s, not %s", text, x, got, want)
			}
		}
	}
}

// TestStringsOfTrees checks that equal strings are those of equal trees.
func TestStringsOfTrees(t *testing.T) {
	for f, l := range small() {
		seen := map[string]api.Value{}
		for _, s := range l {
			for x := range s.Next {
				v := must(Unfold(s, x, 2))
				text := must(String(s.Functor, 2, v))
				if u, ok := seen[text]; ok && !same(u, v) {
					t.Fatalf("%s: %s is the string of %v and of %v", f, text, u, v)
				}
				seen[text] = v
			}
		}
	}
}

// TestHostileTrees checks that no time is spent on trees that are too large, or nested too deeply.
func TestHostileTrees(t *testing.T) {
	doubled, nested, shared := num(0), num(0), num(0)
	for range 64 {
		doubled = args(doubled, doubled)
		shared = args(slices.Repeat([]api.Value{shared}, 100)...)
	}
	for range 1<<16 - 1 {
		nested = args(nested)
	}
	deep := api.Functor{}
	for range api.MaxHeight - 1 {
		deep = api.Functor{Kind: api.FPow, Args: []api.Functor{deep}}
	}
	for _, f := range []api.Functor{typed("X"), typed("X * X"), typed("X ^ 2"), typed("P(X)"), typed("B(X)"), typed("(X * X) ^ 2"), typed("1 + X"), deep} {
		for _, v := range []api.Value{doubled, nested, shared} {
			for _, depth := range []int{0, 1, 50, 100} {
				w, ofCut := Cut(f, depth, v, 0)
				text, ofString := String(f, depth, v)
				if Check(f, depth, v) != api.ErrValue || ofCut != api.ErrValue || !isZero(w) || ofString != api.ErrValue || text != "" {
					t.Errorf("%s to depth %d: errors %d %d", must(functor.String(f)), depth, ofCut, ofString)
				}
			}
		}
	}
}

// remember checks that no slice in v is one that was seen before, and keeps those of v.
func remember(t *testing.T, seen map[uintptr]bool, v api.Value) {
	t.Helper()
	for _, l := range []reflect.Value{reflect.ValueOf(v.Args), reflect.ValueOf(v.Weights)} {
		if l.Cap() > 0 && seen[l.Pointer()] {
			t.Errorf("shared memory: %v", l)
		}
		seen[l.Pointer()] = l.Cap() > 0
	}
	for _, a := range v.Args {
		remember(t, seen, a)
	}
}

// TestMemory checks that results are new memory, and that arguments are not changed, also beyond the lengths of their slices.
func TestMemory(t *testing.T) {
	for _, text := range kinds {
		build := func() api.System {
			s := of(text)
			s.Next = append(s.Next, num(77))[:len(s.Next)]
			return s
		}
		s := build()
		results := slices.Clone(s.Next)
		for x := range s.Next {
			v, before := must(Unfold(s, x, 3)), must(Unfold(s, x, 3))
			results = append(results, v, before)
			for less := range 4 {
				results = append(results, must(Cut(s.Functor, 3, v, less)))
			}
			must(String(s.Functor, 3, v))
			must(Equal(s, s, x, 0, 3))
			if !reflect.DeepEqual(v, before) {
				t.Errorf("%q: the tree of %d was changed", text, x)
			}
		}
		// All results are kept until here: the memory of one that is not may be used again.
		seen := map[uintptr]bool{}
		for _, v := range results {
			remember(t, seen, v)
		}
		if u := build(); !reflect.DeepEqual(s, u) || s.Next[:len(s.Next)+1][len(s.Next)].N != 77 {
			t.Errorf("%q: the system was changed", text)
		}
	}
}

// TestBeyondLength gives Cut a tree whose elements lie in a longer slice.
func TestBeyondLength(t *testing.T) {
	f := typed("B(1 + X)")
	elements := []api.Value{num(0, num(0)), num(1, args(args())), num(1, args(args())), num(9)}
	weights := []int{2, 3, 5, 7}
	v := api.Value{Args: elements[:2], Weights: weights[:2]}
	if w := must(Cut(f, 2, v, 1)); !same(w, weighed([]int{2, 3}, num(0, num(0)), num(1, dot))) {
		t.Errorf("%v", w)
	}
	if elements[3].N != 9 || !slices.Equal(weights, []int{2, 3, 5, 7}) || len(elements[2].Args) != 1 {
		t.Error("elements beyond the length were changed")
	}
}
