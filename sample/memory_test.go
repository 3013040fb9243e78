package sample

import (
	"slices"
	"testing"

	"ectype/api"
)

// TestMemory checks that each list is new once, in whatever it is.
func TestMemory(t *testing.T) {
	m := Memory{}
	term := api.Term{Body: []api.Part{{Args: []api.Part{{Terms: make([]api.Term, 1)}}, Weights: []int{1}}}}
	f := Functor("P(2 * X)")
	v := api.Value{Args: []api.Value{{}}, Weights: make([]int, 0, 1)}
	shows := []func() bool{
		func() bool { return m.Functor(f.Args[0]) },
		func() bool { return m.Functor(f) },
		func() bool { return m.System(api.System{Functor: f}) },
		func() bool { return m.Terms(term.Body[0].Args[0].Terms) },
		func() bool { return m.Parts(term.Body[0].Args) },
		func() bool { return m.Parts(term.Body) },
		func() bool { return m.Terms([]api.Term{term}) },
		func() bool { return m.Numbers(v.Weights) },
		func() bool { return m.Values(v.Args) },
		func() bool { return m.Values([]api.Value{v}) },
		func() bool { return m.System(api.System{Next: []api.Value{{}, v}}) },
	}
	// Only those of which nothing has been shown before are new.
	for i, show := range shows {
		want := slices.Contains([]int{0, 3, 7, 8}, i)
		if got := show(); got != want || show() {
			t.Errorf("%d: %v", i, got)
		}
	}
	if !m.Numbers(nil) || !m.Numbers(nil) || !m.Values(nil) || !m.Parts([]api.Part{{}, {}}) || len(m) < 9 {
		t.Errorf("%d lists", len(m))
	}
}

// TestRoom checks that what lies beyond the lists counts, and is in new memory.
func TestRoom(t *testing.T) {
	d := Dice(11)
	for _, text := range functors {
		f := Functor(text)
		v, x := d.Value(f, 3), d.Term(f, 3)
		w, y := RoomyValue(v), RoomyTerm(x)
		m := Memory{}
		if !m.Values(v.Args) || !m.Values(w.Args) || !m.Parts(x.Body) || !m.Parts(y.Body) {
			t.Errorf("%s: shared memory", text)
		}
		if !SameValues(w, RoomyValue(v)) || !SameTerms(y, RoomyTerm(x)) || SameTerms(y, x) {
			t.Errorf("%s: other copies", text)
		}
		w.Args = w.Args[:len(w.Args)+1]
		w.Args[len(w.Args)-1].N++
		w.Args = w.Args[:len(w.Args)-1]
		y.Body[:2][1].N++
		if SameValues(w, RoomyValue(v)) || SameTerms(y, RoomyTerm(x)) {
			t.Errorf("%s: what was changed beyond the lists does not count", text)
		}
	}
}
