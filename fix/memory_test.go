package fix

import (
	"reflect"
	"slices"
	"testing"

	"ectype/api"
	"ectype/functor"
	"ectype/logic"
	"ectype/sample"
)

// TestMemoryOfResults checks that no two results, no two parts of one, and no argument share memory. All results are kept, so that no memory is used again.
func TestMemoryOfResults(t *testing.T) {
	formulas, equations, lists := map[*api.Formula]bool{}, map[*api.Equation]bool{}, map[*int]bool{}
	add := func(all ...api.Formula) {
		for _, a := range all {
			sample.Lists(a, func(l []api.Formula) {
				if formulas[&l[0]] {
					t.Fatalf("%v shares its memory", a)
				}
				formulas[&l[0]] = true
			})
		}
	}
	addEquations := func(l []api.Equation) {
		if equations[&l[0]] {
			t.Fatalf("%v shares its memory", l)
		}
		equations[&l[0]] = true
		for _, q := range l {
			add(q.Body)
		}
	}
	addLists := func(all [][]int) {
		for _, l := range all {
			if len(l) == 0 {
				continue
			}
			if lists[&l[0]] {
				t.Fatalf("%v shares its memory", all)
			}
			lists[&l[0]] = true
		}
	}
	s := of("type 2 * (X ^ 4 * P(X))\n0 = (0, ([0, 1, 1, 0], {0, 1}))\n1 = (1, ([1, 1, 1, 1], {}))\n")
	f := s.Functor
	l := []api.Equation{greatest("2 * (X ^ 4 * P(X))", "(V0 and step second second not some not at V1)"), least("2 * (X ^ 4 * P(X))", "(V1 and not not V0)")}
	l[1].Body.Args[1] = l[0].Body.Args[0] // an argument may have its own parts in the same memory
	a := body("2 * (X ^ 4 * P(X))", "(step first is 1 and not step first is 0)")
	addEquations(l)
	add(a)
	given := [][]int{{0, 1}, {0, 1}}
	addLists(given)
	for range 3 {
		addEquations(must(Dual(f, l)))
		add(must(Rounds(f, l, 0))...)
		add(must(Rounds(f, l, 3))...)
		add(must(Every(f, a)))
		addEquations(must(Always(f, a)))
		addEquations(must(Possible(f, a)))
		addLists(must(Solve(s, l)))
		addLists(must(Solve(s, []api.Equation{{Greatest: true, Body: v(0)}, alone(v(0)), alone(v(1)), {Greatest: true, Body: v(3)}})))
		addLists(must(Apply(s, []api.Equation{alone(v(0)), alone(v(0))}, given)))
	}
	if len(formulas) < 500 || len(equations) != 10 || len(lists) < 20 {
		t.Errorf("%d formulas, %d equations, %d lists", len(formulas), len(equations), len(lists))
	}
}

// roomy returns a in new memory, with more memory beyond its lists.
func roomy(a api.Formula) api.Formula {
	args := make([]api.Formula, 0, len(a.Args)+2)
	for _, b := range a.Args {
		args = append(args, roomy(b))
	}
	beyond := args[:len(args)+2]
	beyond[len(args)], beyond[len(args)+1] = v(77), nots(1, v(0))
	a.Args = args
	return a
}

// areSame reports whether two formulas are equal, also in the memory beyond their lists.
func areSame(a, b api.Formula) bool {
	all, others := a.Args[:cap(a.Args)], b.Args[:cap(b.Args)]
	if a.Op != b.Op || a.N != b.N || a.M != b.M || len(a.Args) != len(b.Args) || len(all) != len(others) {
		return false
	}
	for i := range all {
		if i < len(a.Args) && !areSame(all[i], others[i]) || i >= len(a.Args) && !logic.Same(all[i], others[i]) {
			return false
		}
	}
	return true
}

// TestArguments checks that arguments do not change, and that what lies beyond their lists does not matter.
func TestArguments(t *testing.T) {
	samples(10, 5, 12, 4, func(d *sample.Dice, s api.System, l []api.Equation) {
		f := s.Functor
		room, before := make([]api.Equation, len(l), len(l)+3), make([]api.Equation, len(l), len(l)+3)
		for k, q := range l {
			room[k] = api.Equation{Greatest: q.Greatest, Body: roomy(q.Body)}
			before[k] = api.Equation{Greatest: q.Greatest, Body: roomy(q.Body)}
		}
		room[:cap(room)][len(l)].Body = v(99)
		var given, plain [][]int
		for range l {
			x := some(d, len(s.Next))
			given, plain = append(given, append(slices.Clone(x), -7)[:len(x)]), append(plain, x)
		}
		a := d.Formula(f, 5)
		text := written(s)
		for range 2 {
			if !reflect.DeepEqual(must(Solve(s, room)), must(Solve(s, l))) || !reflect.DeepEqual(must(Apply(s, room, given)), must(Apply(s, l, plain))) {
				t.Fatalf("%s in %s: other sets for equal arguments", allWords(f, l), text)
			}
			if allWords(f, must(Dual(f, room))) != allWords(f, must(Dual(f, l))) || !reflect.DeepEqual(must(Rounds(f, room, 1)), must(Rounds(f, l, 1))) || Check(f, room) != api.OK {
				t.Fatalf("%s: other formulas for equal arguments", allWords(f, l))
			}
			if !reflect.DeepEqual(must(Every(f, roomy(a))), must(Every(f, a))) || !reflect.DeepEqual(must(Always(f, roomy(a))), must(Always(f, a))) || !reflect.DeepEqual(must(Possible(f, roomy(a))), must(Possible(f, a))) {
				t.Fatalf("%v: other equations for equal arguments", a)
			}
		}
		for k := range room {
			if !areSame(room[k].Body, before[k].Body) || room[k].Greatest != before[k].Greatest || !slices.Equal(given[k], plain[k]) {
				t.Fatalf("%v was %v", room[k], before[k])
			}
		}
		if b := room[:cap(room)][len(l)].Body; b.N != 99 || written(s) != text || !functor.Same(f, s.Functor) {
			t.Fatal("an argument was changed")
		}
	})
}

// TestChangedResults checks that results can be changed without any effect on others.
func TestChangedResults(t *testing.T) {
	f := typed("2 * X ^ 2")
	before := allWords(f, must(Dual(f, often())))
	dual := must(Dual(f, often()))
	dual[0].Body.Args[0].Op, dual[1].Greatest = -1, false
	if got := allWords(f, must(Dual(f, often()))); got != before {
		t.Errorf("%s was %s", got, before)
	}
	solution := must(Solve(automaton, often()))
	solution[0][0] = 7
	if !slices.Equal(solution[1], []int{0, 1, 2}) || !same(must(Solve(automaton, often())), [][]int{{0, 1, 2}, {0, 1, 2}}) {
		t.Errorf("%v", solution)
	}
}
