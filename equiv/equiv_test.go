package equiv

import (
	"math"
	"reflect"
	"slices"
	"testing"

	"ectype/api"
	"ectype/rounds"
	"ectype/system"
)

func TestMinimal(t *testing.T) {
	for _, c := range []struct {
		s, want api.System
		classes []int
	}{
		{of(coins), states("2 * D(X)", "(0, {1 : 1})", "(1, {1 : 1})"), []int{0, 1, 1}},
		{states("D(X)"), states("D(X)"), nil},
		{states("X", "1", "2", "0"), states("X", "0"), []int{0, 0, 0}},
		{states("3", "2", "0", "2"), states("3", "2", "0"), []int{0, 1, 0}},
		{states("2 * X", "(1, 3)", "(0, 0)", "(0, 3)", "(1, 0)"), states("2 * X", "(1, 0)", "(0, 0)"), []int{0, 1, 1, 0}},
		{states("X + 1", "l 1", "l 3", "r 0", "r 0", "l 2"), states("X + 1", "l 1", "l 2", "r 0"), []int{0, 1, 2, 2, 1}},
		{states("2 * X ^ 2", "(1, [1, 2])", "(0, [0, 0])", "(0, [0, 3])", "(1, [2, 1])"), states("2 * X ^ 2", "(1, [1, 1])", "(0, [0, 0])"), []int{0, 1, 1, 0}},
		{states("P(X)", "{1, 2, 3}", "{}", "{}", "{1, 2}"), states("P(X)", "{1, 2}", "{}", "{1}"), []int{0, 1, 1, 2}},
		{states("B(X)", "{1 : 2, 2 : 3}", "{}", "{}", "{1 : 5}"), states("B(X)", "{1 : 5}", "{}"), []int{0, 1, 1, 0}},
		{states("1 + D(X)", "r {1 : 1, 2 : 1}", "r {0 : 1}", "l 0", "r {0 : 1, 2 : 1}"), states("1 + D(X)", "r {1 : 1, 2 : 1}", "r {0 : 1}", "l 0", "r {0 : 1, 2 : 1}"), []int{0, 1, 2, 3}},
		{states("1 + D(X)", "r {0 : 1, 1 : 1, 2 : 2}", "r {1 : 1, 2 : 1}", "l 0", "l 0"), states("1 + D(X)", "r {0 : 1, 1 : 1}", "l 0"), []int{0, 0, 1, 1}},
	} {
		m, classes, e := Minimal(c.s)
		if e != api.OK || !system.Same(m, c.want) || !slices.Equal(classes, c.classes) {
			t.Errorf("%s: %s, %v, error %d, not %s", written(c.s), written(m), classes, e, written(c.want))
		}
	}
}

// TestMinimality checks all homomorphisms from small systems: none is onto a system with fewer states, or maps states of the minimal system to one.
func TestMinimality(t *testing.T) {
	thrownSystems(30, 4, func(d *dice, s api.System) {
		if d.Below(2) == 0 {
			s, _ = d.Cover(s, 5)
		}
		m, classes, e := Minimal(s)
		if e != api.OK || !slices.Equal(classes, must(Classes(s))) || !must(system.Is(s, m, classes)) {
			t.Fatalf("%s: %s, %v, error %d", written(s), written(m), classes, e)
		}
		n := len(m.Next)
		for _, to := range quotients(s) {
			if slices.Max(to)+1 < n {
				t.Fatalf("%s has a quotient along %v, but is minimized to %s", written(s), to, written(m))
			}
		}
		if l := quotients(m); len(l) != 1 || slices.Max(l[0])+1 != n {
			t.Fatalf("%s: %s is not minimal", written(s), written(m))
		}
		for x := range n {
			for y := range n {
				if must(Alike(m, m, x, y)) != (x == y) {
					t.Fatalf("%s: %d and %d of %s", written(s), x, y, written(m))
				}
			}
		}
		for x, y := range classes {
			if !must(Alike(s, m, x, y)) {
				t.Fatalf("%s: %d is not like %d of %s", written(s), x, y, written(m))
			}
		}
	})
}

func TestLargeMinimalSystems(t *testing.T) {
	d := dice{5}
	for _, s := range []api.System{chain(100, 1), ring(0), ordinals(1), swing(93)} {
		if m, classes, e := Minimal(s); e != api.OK || !system.Same(m, s) || slices.Max(classes) != 99 || !slices.IsSorted(classes) {
			t.Errorf("%.60q: %v, error %d", written(s), classes, e)
		}
	}
	for range 5 {
		c, h := d.Cover(swing(3), 100)
		if m, classes, e := Minimal(c); e != api.OK || len(m.Next) != 10 || !slices.Equal(classes, rounds.Numbered(h)) {
			t.Errorf("%v, error %d", classes, e)
		}
	}
}

// invalidSystems returns systems that are not valid, by names.
func invalidSystems() map[string]api.System {
	var zero, all, deep, endless api.Value
	for x := range api.MaxStates {
		all.Args = append(all.Args, api.Value{N: x})
	}
	for range 1<<16 - 1 {
		deep = api.Value{Args: []api.Value{deep}}
	}
	for range 64 {
		endless = api.Value{Args: []api.Value{endless, endless}}
	}
	invalid := func(f string, next ...api.Value) api.System {
		return api.System{Functor: typed(f), Next: next}
	}
	return map[string]api.System{
		"functor":         {Functor: api.Functor{Kind: api.FConst}},
		"kind":            {Functor: api.Functor{Kind: -1}, Next: []api.Value{zero}},
		"state":           invalid("X", zero, api.Value{N: 2}),
		"negative state":  invalid("X", api.Value{N: -1}),
		"order":           invalid("P(X)", zero, api.Value{Args: []api.Value{{N: 1}, {N: 0}}}),
		"no weights":      invalid("B(X)", api.Value{Args: []api.Value{zero}}),
		"common divisor":  invalid("D(X)", api.Value{Args: []api.Value{zero}, Weights: []int{2}}),
		"too many states": invalid("X", slices.Repeat([]api.Value{zero}, api.MaxStates+1)...),
		"too many nodes":  invalid("P(X) * P(X)", slices.Repeat([]api.Value{{Args: []api.Value{all, all}}}, api.MaxStates)...),
		"nested":          invalid("P(X)", deep),
		"endless":         invalid("X * X", endless),
	}
}

// TestInvalidSystems checks that this error comes before all others, for each system of a call, and that results next to it are zero values.
func TestInvalidSystems(t *testing.T) {
	good := of(coins)
	for name, s := range invalidSystems() {
		check := func(call string, e api.Errno, zero bool) {
			t.Helper()
			if e != api.ErrSystem || !zero {
				t.Errorf("%s: %s: error %d, zero values: %v", name, call, e, zero)
			}
		}
		for _, k := range []int{-1, 0, 1, math.MaxInt} {
			l, e := Round(s, k)
			check("Round", e, l == nil)
		}
		stable, e := Stable(s)
		check("Stable", e, stable == 0)
		l, e := Classes(s)
		check("Classes", e, l == nil)
		for _, x := range []int{-1, 0, 5} {
			alike, e := Alike(s, good, x, x)
			check("Alike", e, !alike)
			alike, e = Alike(good, s, x, x)
			check("Alike of another one", e, !alike)
			alike, e = Alike(s, s, x, x)
			check("Alike of twice", e, !alike)
			c, e := Canonical(s, x)
			check("Canonical", e, isZero(c))
		}
		m, l, e := Minimal(s)
		check("Minimal", e, isZero(m) && l == nil)
	}
}

func TestArguments(t *testing.T) {
	s, none := of(coins), states("2 * D(X)")
	for _, k := range []int{-1, -2, math.MinInt} {
		for _, s := range []api.System{s, none} {
			if l, e := Round(s, k); e != api.ErrArg || l != nil {
				t.Errorf("round %d: %v, error %d", k, l, e)
			}
		}
	}
	for _, x := range []int{-1, 3, 4, 100, math.MinInt, math.MaxInt} {
		if c, e := Canonical(s, x); e != api.ErrArg || !isZero(c) {
			t.Errorf("state %d: %v, error %d", x, c, e)
		}
		for _, pair := range [][2]int{{x, 0}, {0, x}, {x, x}} {
			if b, e := Alike(s, s, pair[0], pair[1]); e != api.ErrArg || b {
				t.Errorf("states %v: %v, error %d", pair, b, e)
			}
		}
	}
	for _, s := range []api.System{none, {}} {
		if c, e := Canonical(s, 0); e != api.ErrArg || !isZero(c) {
			t.Errorf("no states: %v, error %d", c, e)
		}
	}
	four := states("2 * D(X)", "(0, {0 : 1})", "(0, {0 : 1})", "(0, {0 : 1})", "(0, {0 : 1})")
	for _, c := range []struct {
		s, t api.System
		x, y int
		want api.Errno
	}{
		{s, none, 0, 0, api.ErrArg},
		{none, s, 0, 0, api.ErrArg},
		{s, four, 3, 0, api.ErrArg},
		{s, four, 0, 3, api.OK},
		{four, s, 0, 3, api.ErrArg},
		{four, s, 3, 2, api.OK},
		{s, states("3 * D(X)", "(0, {0 : 1})"), 0, 0, api.ErrArg},
		{s, states("2 * B(X)", "(0, {0 : 1})"), 0, 0, api.ErrArg},
		{states("X * 2", "(0, 0)"), states("2 * X", "(0, 0)"), 0, 0, api.ErrArg},
		{states("X"), states("2"), 7, -7, api.ErrArg},
	} {
		if b, e := Alike(c.s, c.t, c.x, c.y); e != c.want || b && e != api.OK {
			t.Errorf("%d of %s and %d of %s: %v, error %d", c.x, written(c.s), c.y, written(c.t), b, e)
		}
	}
}

func TestNoStates(t *testing.T) {
	for _, s := range []api.System{{}, states("P(X)"), {Functor: typed("2"), Next: []api.Value{}}} {
		round, e := Round(s, 5)
		stable, f := Stable(s)
		classes, g := Classes(s)
		if len(round) != 0 || stable != 0 || len(classes) != 0 || e != api.OK || f != api.OK || g != api.OK {
			t.Errorf("%s: %v %d %v, errors %d %d %d", written(s), round, stable, classes, e, f, g)
		}
		if m, l, e := Minimal(s); !system.Same(m, s) || len(l) != 0 || e != api.OK {
			t.Errorf("%s: %s %v, error %d", written(s), written(m), l, e)
		}
	}
}

// remember checks that no slice in v begins where one that was seen before begins, and keeps those of v.
func remember(t *testing.T, seen map[uintptr]bool, v reflect.Value) {
	t.Helper()
	switch v.Kind() {
	case reflect.Struct:
		for i := range v.NumField() {
			remember(t, seen, v.Field(i))
		}
	case reflect.Slice:
		if v.Cap() > 0 && seen[v.Pointer()] {
			t.Errorf("shared memory: %v", v)
		}
		seen[v.Pointer()] = v.Cap() > 0
		for i := range v.Len() {
			remember(t, seen, v.Index(i))
		}
	}
}

// TestMemory checks that results are new memory, and that arguments are not changed, also beyond the lengths of their slices.
func TestMemory(t *testing.T) {
	thrownSystems(3, 3, func(_ *dice, sample api.System) {
		build := func() api.System {
			s := of(written(sample))
			s.Next = append(s.Next, api.Value{N: 77})[:len(s.Next)]
			return s
		}
		s, u, seen := build(), build(), map[uintptr]bool{}
		results := []any{s, u}
		for range 2 {
			for k := range 3 {
				results = append(results, must(Round(s, k)))
			}
			m, l, _ := Minimal(s)
			results = append(results, must(Classes(s)), m, l, must(Canonical(s, 0)))
		}
		must(Stable(s))
		must(Alike(s, u, 0, 0))
		for _, r := range results {
			remember(t, seen, reflect.ValueOf(r))
		}
		for _, s := range []api.System{s, u} {
			if !reflect.DeepEqual(s, build()) || s.Next[:len(s.Next)+1][len(s.Next)].N != 77 {
				t.Errorf("%s was changed", written(sample))
			}
		}
	})
}
