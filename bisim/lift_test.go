package bisim

import (
	"fmt"
	"math"
	"slices"
	"testing"

	"ectype/api"
	"ectype/functor"
	"ectype/value"
)

func TestRelated(t *testing.T) {
	for _, c := range []struct {
		f, u, v string
		r       [][2]int
		want    bool
	}{
		{"X", "0", "1", pairs(0, 1), true},
		{"X", "1", "0", pairs(0, 1), false},
		{"X", "0", "0", nil, false},
		{"3", "2", "2", nil, true},
		{"3", "2", "1", pairs(0, 0, 0, 1, 1, 0, 2, 1), false},
		{"X * X", "(0, 1)", "(1, 2)", pairs(0, 1, 1, 2), true},
		{"X * X", "(0, 1)", "(1, 2)", pairs(0, 1, 0, 2), false},
		{"X * X", "(0, 1)", "(1, 2)", pairs(1, 1, 1, 2), false},
		{"2 * X", "(1, 0)", "(1, 0)", pairs(0, 0), true},
		{"2 * X", "(1, 0)", "(0, 0)", pairs(0, 0), false},
		{"X + X", "l 0", "l 1", pairs(0, 1), true},
		{"X + X", "r 0", "r 1", pairs(0, 1), true},
		{"X + X", "l 0", "r 1", pairs(0, 1), false},
		{"X + X", "r 0", "r 1", pairs(0, 0, 1, 1), false},
		{"X + 2", "r 1", "r 1", nil, true},
		{"2 + X", "r 1", "r 1", nil, false},
		{"X ^ 3", "[0, 1, 0]", "[1, 1, 2]", pairs(0, 1, 0, 2, 1, 1), true},
		{"X ^ 3", "[0, 1, 0]", "[1, 1, 2]", pairs(0, 1, 1, 1, 1, 2), false},
		{"P(X)", "{}", "{}", nil, true},
		{"P(X)", "{}", "{0}", pairs(0, 0, 1, 0), false},
		{"P(X)", "{0}", "{}", pairs(0, 0, 0, 1), false},
		{"P(X)", "{0, 1}", "{0, 1}", pairs(0, 1, 1, 0), true},
		{"P(X)", "{0, 1}", "{0, 1}", pairs(0, 0, 0, 1), false},
		{"P(X)", "{0, 1}", "{0, 1}", pairs(0, 1, 1, 1), false},
		{"P(X)", "{0, 1, 2}", "{1}", pairs(0, 1, 1, 1, 2, 1), true},
		{"P(X)", "{1}", "{0, 1, 2}", pairs(1, 0, 1, 1, 1, 2), true},
		{"P(P(X))", "{{}, {0}}", "{{}, {1}}", pairs(0, 1), true},
		{"P(P(X))", "{{}, {0}}", "{{1}}", pairs(0, 1), false},
		{"P(P(X))", "{{0, 1}}", "{{0}, {1}}", pairs(0, 0, 0, 1, 1, 0, 1, 1), true},
		{"P(P(X))", "{{0, 1}}", "{{0}, {1}}", pairs(0, 0, 1, 1), false},
		{"B(X)", "{}", "{}", nil, true},
		{"B(X)", "{}", "{0 : 1}", pairs(0, 0), false},
		{"B(X)", "{0 : 1}", "{}", pairs(0, 0), false},
		{"B(X)", "{0 : 2}", "{0 : 1, 1 : 1}", pairs(0, 0, 0, 1), true},
		{"B(X)", "{0 : 2}", "{0 : 1, 1 : 1}", pairs(0, 0), false},
		{"B(X)", "{0 : 2}", "{0 : 1, 1 : 2}", pairs(0, 0, 0, 1), false},
		{"B(X)", "{0 : 2}", "{0 : 4}", pairs(0, 0), false},
		{"B(X)", "{0 : 1, 1 : 2}", "{0 : 2, 1 : 1}", pairs(0, 0, 1, 0, 1, 1), true},
		{"B(X)", "{0 : 1, 1 : 2}", "{0 : 2, 1 : 1}", pairs(0, 1, 1, 0), true},
		{"B(X)", "{0 : 1, 1 : 2}", "{0 : 2, 1 : 1}", pairs(0, 0, 1, 1), false},
		{"B(X)", "{0 : 1, 1 : 1}", "{0 : 1, 1 : 1}", pairs(0, 0, 0, 1, 1, 0), true}, // 0 has to leave 0 to 1
		{"B(X)", "{0 : 1, 1 : 1, 2 : 1}", "{0 : 1, 1 : 1, 2 : 1}", pairs(0, 0, 0, 1, 1, 1, 1, 2, 2, 0), true},
		{"B(X)", "{0 : 1, 1 : 1, 2 : 1}", "{0 : 1, 1 : 1, 2 : 1}", pairs(0, 0, 0, 1, 1, 0, 1, 1, 2, 0, 2, 1), false},
		{"D(X)", "{0 : 1, 1 : 1}", "{0 : 1}", pairs(0, 0, 1, 0), true},
		{"D(X)", "{0 : 1, 1 : 1}", "{0 : 1}", pairs(0, 0), false},
		{"D(X)", "{0 : 1, 1 : 2}", "{0 : 1, 1 : 1}", pairs(0, 0, 1, 0, 1, 1), true},
		{"D(X)", "{0 : 1, 1 : 2}", "{0 : 1, 1 : 1}", pairs(0, 0, 0, 1, 1, 1), false},
		{"D(X)", "{0 : 1, 1 : 2}", "{0 : 1, 1 : 1, 2 : 1}", pairs(0, 0, 1, 1, 1, 2), true},
		{"D(X)", "{0 : 1, 1 : 2}", "{0 : 1, 1 : 1, 2 : 4}", pairs(0, 0, 1, 1, 1, 2), false},
		{"D(X)", "{0 : 1, 1 : 2}", "{0 : 1, 1 : 1, 2 : 4}", pairs(0, 0, 0, 1, 1, 2), true},
		{"B(P(X))", "{{0} : 1, {1} : 1}", "{{0, 1} : 2}", pairs(0, 0, 0, 1, 1, 0, 1, 1), true},
		{"B(P(X))", "{{0} : 1, {1} : 1}", "{{0, 1} : 2}", pairs(0, 0, 0, 1, 1, 1), false},
		{"2 * D(1 + X)", "(1, {l 0 : 1, r 0 : 1})", "(1, {l 0 : 2, r 0 : 1, r 1 : 1})", pairs(0, 0, 0, 1), true},
		{"2 * D(1 + X)", "(1, {l 0 : 1, r 0 : 1})", "(1, {l 0 : 1, r 0 : 1, r 1 : 1})", pairs(0, 0, 0, 1), false},
	} {
		f := typed(c.f)
		u, v := must(value.Parse(f, 3, c.u)), must(value.Parse(f, 3, c.v))
		if is, e := Related(f, 3, 3, u, v, c.r); e != api.OK || is != c.want {
			t.Errorf("%s: %s and %s by %v: %v, error %d", c.f, c.u, c.v, c.r, is, e)
		}
		if is, e := Related(f, 3, 3, v, u, inverse(c.r)); e != api.OK || is != c.want {
			t.Errorf("%s: %s and %s by the inverse of %v: %v, error %d", c.f, c.v, c.u, c.r, is, e)
		}
	}
}

// inverse returns the relation of all pairs the other way round.
func inverse(r [][2]int) [][2]int {
	var l [][2]int
	for _, p := range r {
		l = append(l, [2]int{p[1], p[0]})
	}
	slices.SortFunc(l, func(p, q [2]int) int { return slices.Compare(p[:], q[:]) })
	return l
}

// TestRelatedByDefinition compares some values by all relations between two and three states.
func TestRelatedByDefinition(t *testing.T) {
	d := dice{1}
	all := relations(2, 3)
	for _, name := range functors {
		f := typed(name)
		count := map[bool]int{}
		for range 40 {
			u, v := d.Value(f, 2), d.Value(f, 3)
			for _, r := range all {
				want := relatedByDefinition(f, u, v, r)
				count[want]++
				if is, e := Related(f, 2, 3, u, v, r); e != api.OK || is != want {
					t.Fatalf("%s: %v and %v by %v: %v, error %d", name, u, v, r, is, e)
				}
				if is, e := Related(f, 3, 2, v, u, inverse(r)); e != api.OK || is != want {
					t.Fatalf("%s: %v and %v by the inverse of %v: %v, error %d", name, v, u, r, is, e)
				}
			}
		}
		if count[true] == 0 || count[false] == 0 {
			t.Errorf("%s: %v", name, count)
		}
	}
}

// TestManyElementsByDefinition has collections of more elements, where weights have to be moved along longer paths.
func TestManyElementsByDefinition(t *testing.T) {
	d := dice{2}
	count := map[string]int{}
	for range 3000 {
		n, m := 1+d.Below(5), 1+d.Below(5)
		u, v, weights := api.Value{}, api.Value{}, 1+d.Below(3)
		for x := range n {
			u.Args, u.Weights = append(u.Args, api.Value{N: x}), append(u.Weights, 1+d.Below(weights))
		}
		for y := range m {
			v.Args, v.Weights = append(v.Args, api.Value{N: y}), append(v.Weights, 1+d.Below(weights))
		}
		r := d.relation(n, m, 1+d.Below(4))
		for _, name := range []string{"B(X)", "D(X)"} {
			f := typed(name)
			u, v := must(value.Normal(f, n, u)), must(value.Normal(f, m, v))
			want := relatedByDefinition(f, u, v, r)
			count[fmt.Sprint(name, want)]++
			if is, e := Related(f, n, m, u, v, r); e != api.OK || is != want {
				t.Fatalf("%s: %v and %v by %v: %v, error %d", name, u, v, r, is, e)
			}
		}
	}
	if len(count) != 4 {
		t.Error(count)
	}
}

// spread returns a collection in which each of some states has its weight.
func spread(weights ...int) api.Value {
	v := api.Value{Weights: weights}
	for x := range weights {
		v.Args = append(v.Args, api.Value{N: x})
	}
	return v
}

// TestLongPaths has an element that is related only to what the first one takes first, which the second one takes then, and so on.
func TestLongPaths(t *testing.T) {
	f := typed("B(X)")
	for _, weight := range []int{1, 2, api.MaxWeight / 100} {
		u := spread(slices.Repeat([]int{weight}, 100)...)
		var r [][2]int
		for x := range 99 {
			r = append(r, [2]int{x, x}, [2]int{x, x + 1})
		}
		r = append(r, [2]int{99, 0})
		if !must(Related(f, 100, 100, u, u, r)) {
			t.Errorf("weights of %d are not related", weight)
		}
		for i := range 99 {
			without := slices.Delete(slices.Clone(r), 2*i+1, 2*i+2)
			if must(Related(f, 100, 100, u, u, without)) {
				t.Errorf("weights of %d are related without %v", weight, r[2*i+1])
			}
		}
	}
}

// TestLargeWeights compares distributions by the relation of a to each b up to a: it relates them if at each b the left one has not had more before than the right one.
func TestLargeWeights(t *testing.T) {
	d := dice{3}
	f := typed("D(X)")
	stairs := slices.DeleteFunc(allPairs(100, 100), func(p [2]int) bool { return p[0] < p[1] })
	count := map[bool]int{}
	for i := range 300 {
		n, m := 2+d.Below(99), 2+d.Below(99)
		u, v := spread(make([]int, n)...), spread(make([]int, m)...)
		for x := range n {
			u.Weights[x] = 1 + d.Below(100)*(i%100) + x*d.Below(60)
		}
		for y := range m {
			v.Weights[y] = 1 + d.Below(100)*(i%100)
		}
		u, v = must(value.Normal(f, 100, u)), must(value.Normal(f, 100, v))
		allU, allV, beforeU, beforeV := 0, 0, 0, 0
		for _, w := range u.Weights {
			allU += w
		}
		for _, w := range v.Weights {
			allV += w
		}
		want := true
		for b := range max(n, m) {
			if b < n {
				beforeU += u.Weights[b]
			}
			if b < m {
				beforeV += v.Weights[b]
			}
			want = want && beforeU*allV <= beforeV*allU
		}
		count[want]++
		if is := must(Related(f, 100, 100, u, v, stairs)); is != want {
			t.Errorf("%v and %v: %v", u.Weights, v.Weights, is)
		}
	}
	if count[true] < 20 || count[false] < 20 {
		t.Error(count)
	}
}

// TestAlmostEqualProbabilities needs products of weights, of more than 32 bits, that are exact.
func TestAlmostEqualProbabilities(t *testing.T) {
	f := typed("D(X)")
	u, v := spread(api.MaxWeight-1, 1), spread(api.MaxWeight-2, 1)
	for _, c := range []struct {
		r    [][2]int
		want bool
	}{
		{pairs(0, 0, 1, 1), false},
		{pairs(0, 0, 0, 1, 1, 1), true},
		{pairs(0, 0, 1, 0, 1, 1), false},
		{pairs(0, 1, 1, 0), false},
		{pairs(0, 0, 0, 1, 1, 0, 1, 1), true},
	} {
		if is := must(Related(f, 2, 2, u, v, c.r)); is != c.want {
			t.Errorf("%v: %v", c.r, is)
		}
		if is := must(Related(f, 2, 2, v, u, inverse(c.r))); is != c.want {
			t.Errorf("inverse of %v: %v", c.r, is)
		}
	}
	large := spread(api.MaxWeight)
	if b := typed("B(X)"); !must(Related(b, 1, 1, large, large, pairs(0, 0))) || must(Related(b, 1, 1, large, spread(api.MaxWeight-1), pairs(0, 0))) {
		t.Error("multisets of MaxWeight")
	}
}

// TestLargeValues has values with many nodes, with as many pairs of elements at each level as possible.
func TestLargeValues(t *testing.T) {
	d := dice{4}
	for _, name := range []string{"P(P(X))", "B(B(X))", "D(D(X))", "P(D(X))", "P(P(P(P(P(P(P(X)))))))"} {
		f := typed(name)
		_, depth := functor.Size(f)
		elements := 40
		if depth > 3 {
			elements = 2
		}
		v := must(value.Normal(f, 100, nested(&d, f, elements)))
		if !must(Related(f, 100, 100, v, v, allPairs(100, 100))) || must(Related(f, 100, 100, v, v, nil)) {
			t.Errorf("%s: all and no pairs", name)
		}
		var same [][2]int
		for x := range 100 {
			same = append(same, [2]int{x, x})
		}
		if !must(Related(f, 100, 100, v, v, same)) {
			t.Errorf("%s: pairs of equal states", name)
		}
		used := must(value.States(f, 100, v))
		if x := used[d.Below(len(used))]; must(Related(f, 100, 100, v, v, slices.Delete(same, x, x+1))) {
			t.Errorf("%s: pairs of equal states without %d", name, x)
		}
	}
}

// nested returns a value of collections of so many elements.
func nested(d *dice, f api.Functor, elements int) api.Value {
	if f.Kind == api.FId {
		return api.Value{N: d.Below(100)}
	}
	var v api.Value
	for range elements {
		v.Args = append(v.Args, nested(d, f.Args[0], elements))
		if f.Kind != api.FPow {
			v.Weights = append(v.Weights, 1+d.Below(9))
		}
	}
	return v
}

func TestErrorsOfRelated(t *testing.T) {
	good, bad := typed("B(X)"), api.Functor{Kind: api.FConst}
	one, two := spread(1), spread(1, 1)
	broken := pairs(1, 1, 0, 0)
	for _, c := range []struct {
		name string
		f    api.Functor
		n, m int
		u, v api.Value
		r    [][2]int
		want api.Errno
	}{
		{"functor", bad, -1, 101, two, two, broken, api.ErrFunctor},
		{"no functor", api.Functor{Kind: 99}, 1, 1, one, one, nil, api.ErrFunctor},
		{"first number", good, -1, 2, one, one, nil, api.ErrArg},
		{"second number", good, 2, -1, one, one, nil, api.ErrArg},
		{"first number too large", good, 101, 2, one, one, nil, api.ErrArg},
		{"second number too large", good, 2, 101, one, one, nil, api.ErrArg},
		{"second number before first value", good, 1, 101, two, one, nil, api.ErrArg},
		{"first number before second value", good, math.MinInt, 1, one, two, nil, api.ErrArg},
		{"greatest number", good, 1, math.MaxInt, one, two, nil, api.ErrArg},
		{"first value", good, 1, 2, two, two, nil, api.ErrValue},
		{"second value", good, 2, 1, two, two, nil, api.ErrValue},
		{"value before relation", good, 2, 1, two, two, broken, api.ErrValue},
		{"value without states", good, 0, 2, one, two, nil, api.ErrValue},
		{"no weights", good, 2, 2, one, api.Value{Args: two.Args}, nil, api.ErrValue},
		{"order of pairs", good, 2, 2, two, two, broken, api.ErrArg},
		{"order of second components", good, 2, 2, two, two, pairs(0, 1, 0, 0), api.ErrArg},
		{"equal pairs", good, 2, 2, two, two, pairs(0, 1, 0, 1), api.ErrArg},
		{"first component", good, 1, 2, one, two, pairs(0, 0, 1, 0), api.ErrArg},
		{"second component", good, 2, 1, two, one, pairs(0, 0, 0, 1), api.ErrArg},
		{"negative", good, 2, 2, two, two, pairs(-1, 0, 0, 0), api.ErrArg},
		{"negative second component", good, 2, 2, two, two, pairs(0, -1, 0, 0), api.ErrArg},
		{"least", good, 2, 2, two, two, pairs(math.MinInt, math.MinInt), api.ErrArg},
		{"greatest", good, 2, 2, two, two, pairs(0, 0, math.MaxInt, math.MaxInt), api.ErrArg},
		{"a pair of no states", good, 0, 0, api.Value{}, api.Value{}, pairs(0, 0), api.ErrArg},
	} {
		if is, e := Related(c.f, c.n, c.m, c.u, c.v, c.r); e != c.want || is {
			t.Errorf("%s: %v, error %d, not %d", c.name, is, e, c.want)
		}
	}
	if is, e := Related(good, 0, 0, api.Value{}, api.Value{Args: []api.Value{}}, [][2]int{}); e != api.OK || !is {
		t.Errorf("empty multisets of no states: %v, error %d", is, e)
	}
	if is, e := Related(good, 1, 100, one, two, pairs(0, 0, 0, 99)); e != api.OK || is {
		t.Errorf("100 states: %v, error %d", is, e)
	}
}
