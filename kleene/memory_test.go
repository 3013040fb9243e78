package kleene

import (
	"slices"
	"testing"

	"ectype/api"
	"ectype/functor"
	"ectype/sample"
	"ectype/system"
	"ectype/term"
)

// TestMemoryOfResults checks that no two results, no two parts of one, and no argument share memory. All results are kept, so that no memory is used again.
func TestMemoryOfResults(t *testing.T) {
	m := sample.Memory{}
	isNew := func(ok bool) {
		t.Helper()
		if !ok {
			t.Fatal("shared memory")
		}
	}
	use := func(s api.System, f api.Functor, l []api.Term) {
		for range 2 {
			isNew(m.Terms(must(Equations(s))))
			if x, e := Of(s, 0); e == api.OK {
				isNew(m.Terms([]api.Term{x}))
			}
			if solutions, e := Solve(f, l); e == api.OK {
				isNew(m.Terms(solutions))
			}
			u, first, e := System(f, l)
			isNew(m.System(must(u, e)) && m.Numbers(first))
		}
	}
	equationLists(6, 4, 4, func(d *sample.Dice, f string, l []api.Term) {
		s := d.System(f, 4)
		isNew(m.System(s) && m.Terms(l))
		use(s, s.Functor, l)
	})
	// An argument may have its own parts in the same memory, and lists without elements, but with memory.
	equation := rec(api.Part{Args: []api.Part{leaf(1), leaf(2), within(api.Term{Body: []api.Part{{Weights: make([]int, 0, 9)}}})}, Weights: []int{1, 2, 3}})
	next := api.Value{Args: []api.Value{{}, {N: 1}}, Weights: []int{1, 2}}
	use(api.System{Functor: typed("B(X)"), Next: []api.Value{next, next}}, typed("B(X)"), []api.Term{equation, equation})
	if len(m) < 5000 {
		t.Errorf("%d lists", len(m))
	}
}

// TestArguments checks that arguments do not change, and that what lies beyond their lists does not matter.
func TestArguments(t *testing.T) {
	equationLists(15, 4, 3, func(d *sample.Dice, f string, l []api.Term) {
		s := d.System(f, 5)
		g, before := s.Functor, written(s)
		room := api.System{Functor: typed(f), Next: sample.Roomy(s.Next, sample.RoomyValue, api.Value{N: 99})}
		again := sample.Roomy(s.Next, sample.RoomyValue, api.Value{N: 99})
		list := sample.Roomy(l, sample.RoomyTerm, api.Term{Var: 99})
		more := sample.Roomy(l, sample.RoomyTerm, api.Term{Var: 99})
		for range 2 {
			sameTerms(t, must(Equations(room)), must(Equations(s)))
			for x := range s.Next {
				one, e := Of(room, x)
				other, want := Of(s, x)
				if e != want {
					t.Fatalf("%s: errors %d and %d", before, e, want)
				}
				sameTerms(t, []api.Term{one}, []api.Term{other})
			}
			solutions, e := Solve(room.Functor, list)
			others, want := Solve(g, l)
			if e != want {
				t.Fatalf("%q: errors %d and %d", words(f, l...), e, want)
			}
			sameTerms(t, solutions, others)
			u, first, _ := System(room.Functor, list)
			if v, numbers, _ := System(g, l); !system.Same(u, v) || !slices.Equal(first, numbers) {
				t.Fatalf("%q: other systems for equal arguments", words(f, l...))
			}
		}
		if !sample.SameRoom(room.Next, again, sample.SameValues) || !sample.SameRoom(list, more, sample.SameTerms) || !functor.Same(room.Functor, g) || written(s) != before {
			t.Fatalf("%s or %q was changed", before, words(f, l...))
		}
	})
}

// sameTerms checks that the terms of two lists are equal.
func sameTerms(t *testing.T, l, m []api.Term) {
	t.Helper()
	if !slices.EqualFunc(l, m, term.Same) {
		t.Fatal("other terms for equal arguments")
	}
}

// TestChangedResults checks that results can be changed without any effect on others, or on arguments.
func TestChangedResults(t *testing.T) {
	f, s := typed("2 * D(X)"), of(coins)
	l := must(Equations(s))
	want := words("2 * D(X)", l...)
	u, first, _ := System(f, l)
	solutions, x := must(Solve(f, l)), must(Of(s, 0))
	u.Functor.Args[0].N, u.Next[0].Args[1].Weights[0], u.Next[1].Args[1].Args[0].N, first[2] = 7, 8, 9, 10
	for _, y := range append(solutions, x) {
		y.Body[0].Args[0].N, y.Body[0].Args[1].Weights[0] = 7, 8
		y.Body[0].Args[1].Args[0].Terms[0].Var = 9
	}
	if got := words("2 * D(X)", l...); !slices.Equal(got, want) || written(s) != coins || f.Args[0].N != 2 {
		t.Errorf("%q, %s", got, written(s))
	}
	l[0].Body[0].Args[0].N, l[0].Body[0].Args[1].Weights[0], l[0].Body[0].Args[1].Args[0].Terms[0].Var = 7, 8, 9
	if got := words("2 * D(X)", must(Equations(s))...); !slices.Equal(got, want) || written(s) != coins {
		t.Errorf("%q, %s", got, written(s))
	}
}
