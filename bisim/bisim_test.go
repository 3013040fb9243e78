package bisim

import (
	"fmt"
	"math"
	"reflect"
	"slices"
	"testing"

	"ectype/api"
	"ectype/system"
)

func TestBisimulations(t *testing.T) {
	all := allPairs(3, 3)
	for _, c := range []struct {
		s, t              api.System
		r, faults, within [][2]int
	}{
		{of(coins), of(coins), nil, nil, nil},
		{of(coins), of(coins), pairs(1, 2), nil, pairs(1, 2)},
		{of(coins), of(coins), pairs(2, 1), nil, pairs(2, 1)},
		{of(coins), of(coins), pairs(0, 0), pairs(0, 0), nil},
		{of(coins), of(coins), pairs(0, 0, 1, 1), pairs(0, 0), pairs(1, 1)},
		{of(coins), of(coins), pairs(0, 0, 1, 1, 2, 2), nil, pairs(0, 0, 1, 1, 2, 2)},
		{of(coins), of(coins), pairs(0, 0, 1, 2, 2, 1), pairs(0, 0), pairs(1, 2, 2, 1)},
		{of(coins), of(coins), pairs(0, 0, 1, 1, 1, 2, 2, 1), pairs(0, 0), pairs(1, 1, 1, 2, 2, 1)},
		{of(coins), of(coins), all, pairs(0, 1, 0, 2, 1, 0, 2, 0), pairs(0, 0, 1, 1, 1, 2, 2, 1, 2, 2)},
		{of(coins), states("2 * D(X)", "(1, {0 : 1})", "(0, {0 : 1})"), pairs(0, 0, 0, 1, 1, 0, 2, 0), pairs(0, 0), pairs(0, 1, 1, 0, 2, 0)},
		{of(coins), states("2 * D(X)", "(1, {0 : 1})", "(0, {0 : 1})"), pairs(0, 0, 0, 1, 2, 0), pairs(0, 0, 0, 1), pairs(2, 0)},
		{states("X", "1", "0"), states("X", "0", "1"), pairs(0, 0, 1, 0, 1, 1), pairs(1, 1), pairs(0, 0, 1, 0)},
		{chain(3, 1), chain(3, 1), all, pairs(0, 2, 1, 2, 2, 0, 2, 1), pairs(0, 0, 1, 1, 2, 2)},
		{chain(3, 1), chain(3, 1), pairs(0, 0, 1, 1), pairs(1, 1), nil},
		{states("P(X)", "{0, 1}", "{0}"), states("P(X)", "{0}"), pairs(0, 0), pairs(0, 0), nil},
		{states("P(X)", "{0, 1}", "{0}"), states("P(X)", "{0}"), pairs(0, 0, 1, 0), nil, pairs(0, 0, 1, 0)},
		{states("P(X)", "{0}"), states("P(X)", "{}"), pairs(0, 0), pairs(0, 0), nil},
		{states("B(X)", "{0 : 2}"), states("B(X)", "{0 : 1, 1 : 1}", "{0 : 1, 1 : 1}"), pairs(0, 0, 0, 1), nil, pairs(0, 0, 0, 1)},
		{states("B(X)", "{0 : 2}"), states("B(X)", "{0 : 1, 1 : 1}", "{0 : 1}"), pairs(0, 0, 0, 1), pairs(0, 1), nil},
		{states("D(X)", "{0 : 2, 1 : 1}", "{1 : 1}"), states("D(X)", "{0 : 1, 1 : 2}", "{0 : 1}"), pairs(0, 0, 0, 1, 1, 0, 1, 1), nil, pairs(0, 0, 0, 1, 1, 0, 1, 1)},
		{states("D(X)", "{0 : 2, 1 : 1}", "{1 : 1}"), states("D(X)", "{0 : 1, 1 : 2}", "{0 : 1}"), pairs(0, 0, 0, 1, 1, 1), pairs(0, 1, 1, 1), nil},
		{states("D(X)", "{0 : 1}"), states("D(X)"), nil, nil, nil},
	} {
		name := fmt.Sprintf("%s and %s by %v", written(c.s), written(c.t), c.r)
		if l, e := Faults(c.s, c.t, c.r); e != api.OK || !slices.Equal(l, c.faults) {
			t.Errorf("%s: faults %v, error %d, not %v", name, l, e, c.faults)
		}
		if is, e := Is(c.s, c.t, c.r); e != api.OK || is != (len(c.faults) == 0) {
			t.Errorf("%s: bisimulation %v, error %d", name, is, e)
		}
		if l, e := Within(c.s, c.t, c.r); e != api.OK || !slices.Equal(l, c.within) {
			t.Errorf("%s: within it %v, error %d, not %v", name, l, e, c.within)
		}
	}
}

func TestLargest(t *testing.T) {
	for _, c := range []struct {
		s, t api.System
		want [][2]int
	}{
		{of(coins), of(coins), pairs(0, 0, 1, 1, 1, 2, 2, 1, 2, 2)},
		{of(coins), states("2 * D(X)", "(1, {0 : 1})"), pairs(1, 0, 2, 0)},
		{states("2 * D(X)", "(1, {0 : 1})"), of(coins), pairs(0, 1, 0, 2)},
		{of(coins), states("2 * D(X)"), nil},
		{states("2 * D(X)"), of(coins), nil},
		{api.System{}, states("X", "0"), nil},
		{chain(3, 1), chain(4, 1), pairs(0, 1, 1, 2, 2, 3)},
		{chain(2, 0), chain(3, 0), allPairs(2, 3)},
		{states("X", "1", "0"), states("X", "0"), pairs(0, 0, 1, 0)},
		{states("P(X)", "{}", "{0}", "{0, 1}", "{1}"), states("P(X)", "{1}", "{}", "{0, 1}"), pairs(0, 1, 1, 0, 2, 2)},
		{states("P(X)", "{}", "{0}", "{2}"), states("P(X)", "{0}", "{1, 0}"), pairs(2, 0, 2, 1)},
		{states("B(X)", "{}", "{0 : 2}", "{0 : 1}"), states("B(X)", "{}", "{0 : 1, 2 : 1}", "{}"), pairs(0, 0, 0, 2, 1, 1)},
		{states("D(X)", "{0 : 1, 1 : 2}", "{1 : 1}"), states("D(X)", "{1 : 1}", "{0 : 1}"), allPairs(2, 2)},
		{states("1 + D(X)", "l 0", "r {0 : 1, 2 : 1}", "r {2 : 1}"), states("1 + D(X)", "l 0", "l 0", "r {0 : 1, 1 : 1, 3 : 2}", "r {3 : 1}"), pairs(0, 0, 0, 1, 1, 2, 2, 3)},
	} {
		if l, e := Largest(c.s, c.t); e != api.OK || !slices.Equal(l, c.want) {
			t.Errorf("%s and %s: %v, error %d, not %v", written(c.s), written(c.t), l, e, c.want)
		}
	}
}

// samples calls do with pairs of small systems, in which there are bisimulations or not.
func samples(many int, do func(d *dice, s, t api.System)) {
	d := dice{5}
	for _, f := range functors {
		for range many {
			s := d.System(f, 2)
			do(&d, s, d.System(f, 3))
			t, _ := d.Cover(s, 3)
			do(&d, s, t)
			do(&d, t, s)
		}
	}
}

// TestBisimulationsByDefinition looks at all relations between small systems.
func TestBisimulationsByDefinition(t *testing.T) {
	some, many := 0, 0
	samples(4, func(d *dice, s, u api.System) {
		all := relations(len(s.Next), len(u.Next))
		isOne := make([]bool, len(all))
		for i, r := range all {
			isOne[i] = isBisimulation(s, u, r)
			if must(Is(s, u, r)) != isOne[i] {
				t.Fatalf("%s and %s: %v is a bisimulation: %v", written(s), written(u), r, isOne[i])
			}
			faults := must(Faults(s, u, r))
			for _, p := range r {
				if slices.Contains(faults, p) == relatedByDefinition(s.Functor, s.Next[p[0]], u.Next[p[1]], r) {
					t.Fatalf("%s and %s by %v: faults %v", written(s), written(u), r, faults)
				}
			}
			if len(faults) > len(r) || !isRelation(faults, len(s.Next), len(u.Next)) {
				t.Fatalf("%s and %s by %v: faults %v", written(s), written(u), r, faults)
			}
		}
		for i, r := range all {
			// The number of a relation has one bit for each pair.
			union := 0
			for j := range all {
				if isOne[j] && i|j == i {
					union |= j
				}
			}
			if got := must(Within(s, u, r)); !slices.Equal(got, all[union]) {
				t.Fatalf("%s and %s: the largest bisimulation within %v is %v, not %v", written(s), written(u), r, got, all[union])
			}
			if i == len(all)-1 {
				if got := must(Largest(s, u)); !slices.Equal(got, all[union]) {
					t.Fatalf("%s and %s: the largest bisimulation is %v, not %v", written(s), written(u), got, all[union])
				}
				if union > 0 {
					some++
				}
				many++
			}
		}
	})
	if some < many/3 || some == many {
		t.Errorf("of %d pairs of systems %d have a bisimulation", many, some)
	}
}

// slow returns a system of 2 * D(X) in which each state may reach each other one, but in each round only one more state is seen to behave differently.
// The last state is the only one with the output 1, if there is one.
func slow(last int) api.System {
	s := api.System{Functor: typed("2 * D(X)")}
	for x := range 100 {
		weights := slices.Repeat([]int{1}, 100)
		weights[min(x+1, 99)] = 2
		s.Next = append(s.Next, api.Value{Args: []api.Value{{N: last * (x / 99)}, spread(weights...)}})
	}
	return s
}

// TestManyRounds has systems of 100 states, for which pairs are removed in many rounds, also where each state has many successors.
func TestManyRounds(t *testing.T) {
	var same, all, apart [][2]int
	for _, p := range allPairs(100, 100) {
		all = append(all, p)
		if p[0] == p[1] {
			same = append(same, p)
		}
		if (p[0] == 99) == (p[1] == 99) {
			apart = append(apart, p)
		}
	}
	if l := must(Largest(chain(100, 1), chain(100, 1))); !slices.Equal(l, same) {
		t.Errorf("chain: %v", l)
	}
	if l := must(Largest(chain(100, 0), chain(100, 0))); !slices.Equal(l, all) {
		t.Errorf("chain without outputs: %d pairs", len(l))
	}
	if l := must(Within(chain(100, 0), chain(100, 0), apart)); !slices.Equal(l, same) {
		t.Errorf("chain whose end is not related: %v", l)
	}
	for i := range 4 {
		without := slices.DeleteFunc(slices.Clone(same), func(p [2]int) bool { return p[0] == i*33 })
		if l := must(Within(chain(100, 0), chain(100, 0), without)); !slices.Equal(l, same[i*33+1:]) {
			t.Errorf("chain without %d: %v", i*33, l)
		}
	}
	if l := must(Largest(slow(1), slow(1))); !slices.Equal(l, same) {
		t.Errorf("distributions: %v", l)
	}
	if l := must(Within(slow(0), slow(0), apart)); !slices.Equal(l, same) {
		t.Errorf("distributions without outputs: %v", l)
	}
}

// invalidSystems returns systems that are not valid, by names.
func invalidSystems() map[string]api.System {
	var zero, all, deep, endless api.Value
	for x := range api.MaxStates {
		all.Args = append(all.Args, api.Value{N: x})
	}
	for range 1<<16 - 1 {
		deep = api.Value{Args: []api.Value{deep}}
	}
	for range 64 {
		endless = api.Value{Args: []api.Value{endless, endless}}
	}
	invalid := func(f string, next ...api.Value) api.System {
		return api.System{Functor: typed(f), Next: next}
	}
	return map[string]api.System{
		"functor":         {Functor: api.Functor{Kind: api.FConst}},
		"kind":            {Functor: api.Functor{Kind: -1}, Next: []api.Value{zero}},
		"state":           invalid("X", zero, api.Value{N: 2}),
		"order":           invalid("P(X)", zero, api.Value{Args: []api.Value{{N: 1}, {N: 0}}}),
		"no weights":      invalid("B(X)", api.Value{Args: []api.Value{zero}}),
		"common divisor":  invalid("D(X)", api.Value{Args: []api.Value{zero}, Weights: []int{2}}),
		"too many states": invalid("X", slices.Repeat([]api.Value{zero}, api.MaxStates+1)...),
		"too many nodes":  invalid("P(X) * P(X)", slices.Repeat([]api.Value{{Args: []api.Value{all, all}}}, api.MaxStates)...),
		"nested":          invalid("P(X)", deep),
		"endless":         invalid("X * X", endless),
	}
}

// checkErrors checks that all functions with systems return an error and zero values.
func checkErrors(t *testing.T, name string, s, u api.System, r [][2]int, want api.Errno) {
	t.Helper()
	is, e := Is(s, u, r)
	if e != want || is {
		t.Errorf("%s: Is: %v, error %d", name, is, e)
	}
	l, e := Faults(s, u, r)
	if e != want || len(l) > 0 {
		t.Errorf("%s: Faults: %v, error %d", name, l, e)
	}
	l, e = Within(s, u, r)
	if e != want || len(l) > 0 {
		t.Errorf("%s: Within: %v, error %d", name, l, e)
	}
}

func TestInvalidSystems(t *testing.T) {
	good, broken := of(coins), pairs(7, 7, -1, 0)
	for name, s := range invalidSystems() {
		for _, r := range [][][2]int{nil, pairs(0, 0), broken} {
			checkErrors(t, name, s, good, r, api.ErrSystem)
			checkErrors(t, name, good, s, r, api.ErrSystem)
			checkErrors(t, name, s, s, r, api.ErrSystem)
			if l, e := Closure(s, r); e != api.ErrSystem || len(l) > 0 {
				t.Errorf("%s: Closure: %v, error %d", name, l, e)
			}
		}
		for _, c := range [][2]api.System{{s, good}, {good, s}, {s, s}} {
			if l, e := Largest(c[0], c[1]); e != api.ErrSystem || len(l) > 0 {
				t.Errorf("%s: Largest: %v, error %d", name, l, e)
			}
		}
	}
}

func TestArguments(t *testing.T) {
	s, two, none := of(coins), states("2 * D(X)", "(0, {1 : 1})", "(0, {1 : 1})"), states("2 * D(X)")
	for _, c := range []struct {
		name string
		s, t api.System
		r    [][2]int
	}{
		{"first component", two, s, pairs(0, 2, 2, 0)},
		{"second component", s, two, pairs(2, 0, 2, 2)},
		{"negative", s, s, pairs(-1, 0)},
		{"negative second component", s, s, pairs(0, -1, 0, 0)},
		{"least", s, s, pairs(math.MinInt, 0)},
		{"greatest", s, s, pairs(0, math.MaxInt)},
		{"order", s, s, pairs(1, 1, 0, 0)},
		{"order of second components", s, s, pairs(1, 1, 1, 0)},
		{"equal pairs", s, s, pairs(0, 0, 1, 1, 1, 1, 2, 2)},
		{"no states", none, s, pairs(0, 0)},
		{"no other states", s, none, pairs(0, 0)},
		{"no system", api.System{}, api.System{}, pairs(0, 0)},
		{"constant", s, states("3 * D(X)", "(0, {0 : 1})"), nil},
		{"kind", s, states("2 * B(X)", "(0, {0 : 1})"), nil},
		{"both", states("X * 2", "(0, 0)"), states("2 * X", "(0, 0)"), pairs(5, 5)},
		{"functors of no states", states("X"), states("2"), nil},
	} {
		checkErrors(t, c.name, c.s, c.t, c.r, api.ErrArg)
	}
	if l, e := Largest(s, states("3 * D(X)", "(0, {0 : 1})")); e != api.ErrArg || len(l) > 0 {
		t.Errorf("Largest: %v, error %d", l, e)
	}
	for _, r := range [][][2]int{nil, {}} {
		is, e := Is(none, s, r)
		if e != api.OK || !is {
			t.Errorf("no states: %v, error %d", is, e)
		}
	}
}

// TestMemory checks that results are new memory, and that arguments are not changed, also beyond the lengths of their slices.
func TestMemory(t *testing.T) {
	s := of(coins)
	s.Next = append(s.Next, api.Value{N: 77})[:3]
	build := func() [][2]int { return append(pairs(0, 0, 1, 1, 2, 2), [2]int{77, 77})[:3] }
	r := build()
	var results [][][2]int
	for range 2 {
		results = append(results, must(Within(s, s, r)), must(Largest(s, s)), must(Faults(s, s, r[:1])), Compose(r, r))
		must(Is(s, s, r))
		must(Closure(s, r))
		must(Related(s.Functor, 3, 3, s.Next[0], s.Next[0], r))
	}
	for i, l := range results[:4] {
		if again := results[i+4]; len(l) == 0 || !slices.Equal(l, again) {
			t.Errorf("%v and %v by the same call", l, again)
		}
	}
	for i, l := range results {
		l[0] = [2]int{88, 88}
		for j, m := range results {
			if (m[0][0] == 88) != (j <= i) {
				t.Errorf("results %d and %d share memory", i, j)
			}
		}
	}
	if !slices.Equal(r[:4], build()[:4]) || !system.Same(s, of(coins)) || s.Next[:4][3].N != 77 {
		t.Errorf("changed: %v %v", r[:4], s.Next[:4])
	}
	l := [][2]int{{3, 1}, {1, 2}, {3, 1}, {0, 0}}
	Compose(l[:3], l[:3])
	if !reflect.DeepEqual(l, [][2]int{{3, 1}, {1, 2}, {3, 1}, {0, 0}}) {
		t.Errorf("changed by Compose: %v", l)
	}
}
