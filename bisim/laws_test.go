package bisim

import (
	"slices"
	"testing"

	"ectype/api"
	"ectype/equiv"
	"ectype/system"
	"ectype/unfold"
)

// TestBehavior checks that the largest bisimulation consists of the pairs that behave alike, by homomorphisms and by unfoldings.
func TestBehavior(t *testing.T) {
	d := dice{8}
	some, many := 0, 0
	for _, f := range functors {
		for i := range 12 {
			s := d.System(f, 1+d.Below(5))
			u, _ := d.Cover(s, len(s.Next)+d.Below(5))
			if i%3 == 0 {
				u = d.System(f, 1+d.Below(5))
			}
			l := must(Largest(s, u))
			depth := len(s.Next) + len(u.Next)
			for _, p := range allPairs(len(s.Next), len(u.Next)) {
				is := slices.Contains(l, p)
				if is != must(equiv.Alike(s, u, p[0], p[1])) || is != must(unfold.Equal(s, u, p[0], p[1], depth)) {
					t.Fatalf("%s and %s: %v is in the largest bisimulation: %v", written(s), written(u), p, is)
				}
				many++
				if is {
					some++
				}
			}
		}
	}
	if some < many/10 || some > many*9/10 {
		t.Errorf("%d of %d pairs behave alike", some, many)
	}
}

// TestBehaviorInLargeSystems has as many states as there may be, and many that behave alike.
func TestBehaviorInLargeSystems(t *testing.T) {
	d := dice{9}
	for _, f := range []string{"2 * X ^ 2", "P(X)", "B(1 + X)", "2 * D(X)", "P(D(1 + X))"} {
		s := d.System(f, 20)
		u, h := d.Cover(s, 100)
		classes := must(equiv.Classes(s))
		l := must(Largest(u, s))
		if !slices.Equal(l, slices.DeleteFunc(allPairs(100, 20), func(p [2]int) bool { return classes[h[p[0]]] != classes[p[1]] })) {
			t.Errorf("%s: %d pairs", f, len(l))
		}
		if is := must(Is(u, s, l)); !is {
			t.Errorf("%s: the largest bisimulation is none", f)
		}
	}
}

// union returns the relation of all pairs of both.
func union(r, q [][2]int) [][2]int {
	all := slices.Concat(r, q)
	slices.SortFunc(all, func(p, q [2]int) int { return slices.Compare(p[:], q[:]) })
	return slices.Compact(all)
}

func TestOperationsOnBisimulations(t *testing.T) {
	proper := 0
	samples(12, func(d *dice, s, u api.System) {
		v, _ := d.Cover(u, 4)
		n, m := len(s.Next), len(u.Next)
		one, two, next := must(Within(s, u, d.relation(n, m, 3))), must(Within(s, u, d.relation(n, m, 3))), must(Within(u, v, d.relation(m, 4, 3)))
		if !must(Is(s, u, union(one, two))) {
			t.Fatalf("%s and %s: the union of %v and %v", written(s), written(u), one, two)
		}
		if !must(Is(u, s, inverse(one))) {
			t.Fatalf("%s and %s: the inverse of %v", written(s), written(u), one)
		}
		both := Compose(one, next)
		if !must(Is(s, v, both)) {
			t.Fatalf("%s, %s and %s: the composition of %v and %v", written(s), written(u), written(v), one, next)
		}
		if len(both) > 0 && len(both) < len(must(Largest(s, v))) {
			proper++
		}
	})
	if proper < 20 {
		t.Errorf("only %d compositions are not the largest bisimulation", proper)
	}
}

// functions returns all functions from n to m numbers.
func functions(n, m int) [][]int {
	if n == 0 {
		return [][]int{nil}
	}
	var l [][]int
	for _, h := range functions(n-1, m) {
		for y := range m {
			l = append(l, append(slices.Clone(h), y))
		}
	}
	return l
}

func TestGraphsOfFunctions(t *testing.T) {
	count := map[bool]int{}
	samples(12, func(_ *dice, s, u api.System) {
		for _, h := range functions(len(s.Next), len(u.Next)) {
			var graph [][2]int
			for x, y := range h {
				graph = append(graph, [2]int{x, y})
			}
			want := must(system.Is(s, u, h))
			count[want]++
			if must(Is(s, u, graph)) != want {
				t.Fatalf("%s and %s: %v is a homomorphism: %v", written(s), written(u), h, want)
			}
		}
	})
	if count[true] < 300 || count[false] < 300 {
		t.Error(count)
	}
}

func TestQuotients(t *testing.T) {
	count := map[bool]int{}
	d := dice{10}
	for _, f := range functors {
		for range 6 {
			s, _ := d.Cover(d.System(f, 1+d.Below(3)), 4)
			for _, to := range functions(4, 4) {
				_, e := system.Quotient(s, to)
				if e == api.ErrArg {
					continue // a number is left out
				}
				same := slices.DeleteFunc(allPairs(4, 4), func(p [2]int) bool { return to[p[0]] != to[p[1]] })
				want := e == api.OK
				count[want]++
				if must(Is(s, s, same)) != want {
					t.Fatalf("%s along %v: error %d", written(s), to, e)
				}
			}
		}
	}
	if count[true] < 300 || count[false] < 300 {
		t.Error(count)
	}
}

// TestClosureOfBisimulations checks that the classes of a bisimulation from a system to itself are those of a quotient.
func TestClosureOfBisimulations(t *testing.T) {
	d := dice{11}
	for _, f := range functors {
		for range 12 {
			s, _ := d.Cover(d.System(f, 1+d.Below(3)), 6)
			r := must(Within(s, s, d.relation(6, 6, 2)))
			if _, e := system.Quotient(s, must(Closure(s, r))); e != api.OK {
				t.Fatalf("%s by %v: error %d", written(s), r, e)
			}
		}
	}
}
