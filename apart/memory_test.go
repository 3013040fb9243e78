package apart

import (
	"reflect"
	"testing"

	"ectype/api"
	"ectype/functor"
	"ectype/sample"
)

// TestMemoryOfResults checks that no two results, and no two parts of one, share memory. All results are kept, so that no memory is used again.
func TestMemoryOfResults(t *testing.T) {
	formulas, relations := map[*api.Formula]bool{}, map[*[2]int]bool{}
	lists := 0
	addFormula := func(a api.Formula) {
		sample.Lists(a, func(l []api.Formula) {
			if formulas[&l[0]] {
				t.Fatalf("%v shares its memory", a)
			}
			formulas[&l[0]] = true
			lists++
		})
	}
	addRelation := func(r [][2]int) {
		if len(r) > 0 && relations[&r[0]] {
			t.Fatalf("%v shares its memory", r)
		}
		if len(r) > 0 {
			relations[&r[0]] = true
		}
	}
	s := sets(12, before)
	for range 2 {
		for x := range s.Next {
			for y := range s.Next {
				v := must(Decide(s, s, x, y))
				addFormula(v.Formula)
				addRelation(v.Relation)
			}
			addFormula(must(Class(s, x)))
			addRelation(must(Small(s, s, x, x)))
		}
	}
	if lists < 2000 || len(relations) != 48 {
		t.Errorf("%d lists of parts, %d relations", lists, len(relations))
	}
}

// TestArguments checks that arguments do not change, and that what lies beyond the lists of a system does not matter.
func TestArguments(t *testing.T) {
	d := sample.Dice(6)
	for _, f := range functors {
		for range 4 {
			s := d.System(f, 4)
			u, w := api.System{Functor: typed(f)}, api.System{Functor: typed(f)}
			for _, v := range s.Next {
				u.Next, w.Next = append(u.Next, sample.RoomyValue(v)), append(w.Next, sample.RoomyValue(v))
			}
			for x := range s.Next {
				for y := range s.Next {
					v, small := must(Decide(s, s, x, y)), relationOf(Small(s, s, x, y))
					before := must(Decide(s, s, x, y))
					if !reflect.DeepEqual(must(Decide(u, u, x, y)), v) || !reflect.DeepEqual(relationOf(Small(u, u, x, y)), small) || !must(Right(u, u, x, y, v)) {
						t.Fatalf("%d and %d of %q: other results for equal systems", x, y, written(s))
					}
					if !reflect.DeepEqual(before, v) {
						t.Fatalf("%v was %v", v, before)
					}
				}
				if !reflect.DeepEqual(must(Class(s, x)), must(Class(u, x))) {
					t.Fatalf("%d of %q: another class", x, written(s))
				}
			}
			for x := range u.Next {
				if !sample.SameValues(u.Next[x], w.Next[x]) || !functor.Same(u.Functor, w.Functor) {
					t.Fatalf("%v was %v", u, w)
				}
			}
		}
	}
}

// relationOf returns a relation without the error next to it.
func relationOf(r [][2]int, _ api.Errno) [][2]int { return r }

// TestChangedResults checks that results can be changed without any effect on others.
func TestChangedResults(t *testing.T) {
	s := of(coins)
	v, w := must(Decide(s, s, 0, 1)), must(Decide(s, s, 0, 1))
	v.Formula.Args[0].Op = -1
	if reflect.DeepEqual(v, w) || !reflect.DeepEqual(must(Decide(s, s, 0, 1)), w) {
		t.Errorf("%v and %v", v, w)
	}
	r := must(Small(s, s, 0, 0))
	r[0] = [2]int{2, 2}
	if got := must(Small(s, s, 0, 0)); got[0] != [2]int{0, 0} {
		t.Error(got)
	}
}

// TestBudget checks that a search ends when its budget is spent.
func TestBudget(t *testing.T) {
	s := sets(12, before)
	search := func(steps int) (api.Formula, api.Errno) {
		return found(func() *formula {
			te := newTeller(len(s.Next), s)
			te.budget = steps
			return te.class(11)
		})
	}
	if a, e := search(50); e != api.ErrLarge || !isZeroFormula(a) {
		t.Errorf("%v %d", a, e)
	}
	if a, e := search(budget); e != api.OK || !reflect.DeepEqual(a, must(Class(s, 11))) {
		t.Errorf("%v %d", a, e)
	}
}
