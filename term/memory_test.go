package term

import (
	"testing"

	"ectype/api"
	"ectype/functor"
	"ectype/sample"
	"ectype/system"
)

// TestMemoryOfResults checks that no two results, no two parts of one, and no argument share memory. All results are kept, so that no memory is used again.
func TestMemoryOfResults(t *testing.T) {
	m := sample.Memory{}
	isNew := func(ok bool) {
		t.Helper()
		if !ok {
			t.Fatal("shared memory")
		}
	}
	samples(8, 8, func(d *sample.Dice, f string, x api.Term) {
		g, text := typed(f), words(typed(f), x)
		isNew(m.Functor(g) && m.Parts(x.Body))
		for range 2 {
			isNew(m.Parts(must(Parse(g, text)).Body) && m.System(must(System(g, x))))
			if p, e := Step(g, x); e == api.OK {
				isNew(m.Parts([]api.Part{p}))
			}
		}
	})
	// An argument may have its own parts in the same memory, and lists without elements, but with memory.
	inner := within(rec(weighed([]int{1, 2, 3}, leaf(0), leaf(1), within(api.Term{Body: []api.Part{}}))))
	inner.Terms[0].Body[0].Args[2].Weights = make([]int, 0, 9)
	x := rec(weighed([]int{1, 2, 3}, inner, inner, leaf(0)))
	g := typed("B(X)")
	for range 2 {
		isNew(m.Parts([]api.Part{must(Step(g, x))}) && m.System(must(System(g, x))))
	}
	if len(m) < 15000 {
		t.Errorf("%d lists", len(m))
	}
}

// TestArguments checks that arguments do not change, and that what lies beyond their lists does not matter.
func TestArguments(t *testing.T) {
	samples(30, 7, func(d *sample.Dice, f string, x api.Term) {
		g, before := typed(f), sample.RoomyTerm(x)
		room := sample.RoomyTerm(x)
		for range 2 {
			if Check(g, room) != api.OK || !Same(room, x) || must(String(g, room)) != words(g, x) || !system.Same(must(System(g, room)), must(System(g, x))) {
				t.Fatalf("%s: other results for equal arguments", words(g, x))
			}
			p, e := Step(g, room)
			if q, want := Step(g, x); e != want || !sameParts(p, q) {
				t.Fatalf("%s: other steps for equal arguments", words(g, x))
			}
			nodes, recursions := Size(room)
			if n, r := Size(x); n != nodes || r != recursions {
				t.Fatalf("%s: other sizes for equal arguments", words(g, x))
			}
		}
		if !sample.SameTerms(room, before) || !functor.Same(g, typed(f)) {
			t.Fatalf("%s was changed", words(g, x))
		}
	})
}

// TestChangedResults checks that results can be changed without any effect on others, or on arguments.
func TestChangedResults(t *testing.T) {
	const text = "<(0, {<(1, {#1 : 1, #0 : 3})> : 1, #0 : 2})>"
	f := typed("2 * D(X)")
	x := of("2 * D(X)", text)
	p, s := must(Step(f, x)), must(System(f, x))
	p.Args[1].Weights[0], p.Args[1].Args[0].Terms[0].Body[0].Args[1].Weights[1], p.Args[1].Args[1].Terms[0].Var = 7, 8, 9
	s.Functor.Args[0].N, s.Next[0].Args[1].Weights[0] = 5, 6
	if words(f, x) != text || f.Args[0].N != 2 {
		t.Errorf("%s", words(f, x))
	}
	want, _ := stepText(text)
	if got := wordsOfPart(f, f, must(Step(f, x))); got != want || written(must(System(f, x))) != "type 2 * D(X)\n0 = (0, {0 : 2, 1 : 1})\n1 = (1, {0 : 1, 1 : 3})\n" {
		t.Errorf("%s, %s", got, written(must(System(f, x))))
	}
}
