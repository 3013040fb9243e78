package term

import (
	"slices"
	"testing"

	"ectype/api"
	"ectype/functor"
	"ectype/sample"
	"ectype/system"
)

// memory remembers the lists of all that it was shown, by their first elements.
type memory struct {
	terms    map[*api.Term]bool
	parts    map[*api.Part]bool
	values   map[*api.Value]bool
	functors map[*api.Functor]bool
	numbers  map[*int]bool
}

// see remembers a list, and fails if it has been seen before.
func see[E any](t *testing.T, seen map[*E]bool, l []E) {
	t.Helper()
	l = l[:cap(l)]
	if len(l) == 0 {
		return
	}
	if seen[&l[0]] {
		t.Fatalf("shared memory: %s", short(l))
	}
	seen[&l[0]] = true
}

func (m memory) term(t *testing.T, x api.Term) {
	t.Helper()
	see(t, m.parts, x.Body)
	for _, p := range x.Body {
		m.part(t, p)
	}
}

func (m memory) part(t *testing.T, p api.Part) {
	t.Helper()
	see(t, m.parts, p.Args)
	see(t, m.numbers, p.Weights)
	see(t, m.terms, p.Terms)
	for _, a := range p.Args {
		m.part(t, a)
	}
	for _, x := range p.Terms {
		m.term(t, x)
	}
}

func (m memory) functor(t *testing.T, f api.Functor) {
	t.Helper()
	see(t, m.functors, f.Args)
	for _, a := range f.Args {
		m.functor(t, a)
	}
}

func (m memory) nextValues(t *testing.T, l []api.Value) {
	t.Helper()
	see(t, m.values, l)
	for _, v := range l {
		see(t, m.numbers, v.Weights)
		m.nextValues(t, v.Args)
	}
}

// TestMemoryOfResults checks that no two results, no two parts of one, and no argument share memory. All results are kept, so that no memory is used again.
func TestMemoryOfResults(t *testing.T) {
	m := memory{map[*api.Term]bool{}, map[*api.Part]bool{}, map[*api.Value]bool{}, map[*api.Functor]bool{}, map[*int]bool{}}
	samples(8, 8, func(d *sample.Dice, f string, x api.Term) {
		g, text := typed(f), words(typed(f), x)
		m.functor(t, g)
		m.term(t, x)
		for range 2 {
			m.term(t, must(Parse(g, text)))
			s := must(System(g, x))
			m.functor(t, s.Functor)
			m.nextValues(t, s.Next)
			if p, e := Step(g, x); e == api.OK {
				m.part(t, p)
			}
		}
	})
	// An argument may have its own parts in the same memory, and lists without elements, but with memory.
	inner := within(rec(weighed([]int{1, 2, 3}, leaf(0), leaf(1), within(api.Term{Body: []api.Part{}}))))
	inner.Terms[0].Body[0].Args[2].Weights = make([]int, 0, 9)
	x := rec(weighed([]int{1, 2, 3}, inner, inner, leaf(0)))
	g := typed("B(X)")
	for range 2 {
		m.part(t, must(Step(g, x)))
		m.nextValues(t, must(System(g, x)).Next)
	}
	if len(m.terms) < 5000 || len(m.parts) < 5000 || len(m.values) < 1000 || len(m.numbers) < 1000 || len(m.functors) < 100 {
		t.Errorf("%d terms, %d parts, %d values, %d lists of weights, %d functors", len(m.terms), len(m.parts), len(m.values), len(m.numbers), len(m.functors))
	}
}

// roomy returns x in new memory, with more memory beyond its lists.
func roomy(x api.Term) api.Term {
	return api.Term{Var: x.Var, Body: withRoom(x.Body, roomyPart, api.Part{N: 9})}
}

func roomyPart(p api.Part) api.Part {
	return api.Part{
		N: p.N, Args: withRoom(p.Args, roomyPart, leaf(7)), Terms: withRoom(p.Terms, roomy, api.Term{Var: 8}),
		Weights: withRoom(p.Weights, func(w int) int { return w }, -5),
	}
}

// withRoom returns the list with what change returns for its elements, and with one more beyond its length.
func withRoom[E any](l []E, change func(E) E, beyond E) []E {
	var room []E
	for _, x := range l {
		room = append(room, change(x))
	}
	return append(room, beyond)[:len(l)]
}

// areSame reports whether two terms are equal, also one element beyond the lengths of their lists.
func areSame(x, y api.Term) bool {
	return x.Var == y.Var && len(x.Body) == len(y.Body) && slices.EqualFunc(further(x.Body), further(y.Body), areSameParts)
}

func areSameParts(p, q api.Part) bool {
	return p.N == q.N && len(p.Args) == len(q.Args) && len(p.Terms) == len(q.Terms) && len(p.Weights) == len(q.Weights) &&
		slices.EqualFunc(further(p.Args), further(q.Args), areSameParts) && slices.EqualFunc(further(p.Terms), further(q.Terms), areSame) && slices.Equal(further(p.Weights), further(q.Weights))
}

// further returns the list with one more element, if it has the memory.
func further[E any](l []E) []E { return l[:min(len(l)+1, cap(l))] }

// TestArguments checks that arguments do not change, and that what lies beyond their lists does not matter.
func TestArguments(t *testing.T) {
	samples(30, 7, func(d *sample.Dice, f string, x api.Term) {
		g, before := typed(f), roomy(x)
		room := roomy(x)
		for range 2 {
			if Check(g, room) != api.OK || !Same(room, x) || must(String(g, room)) != words(g, x) || !system.Same(must(System(g, room)), must(System(g, x))) {
				t.Fatalf("%s: other results for equal arguments", words(g, x))
			}
			p, e := Step(g, room)
			if q, want := Step(g, x); e != want || !sameParts(p, q) {
				t.Fatalf("%s: other steps for equal arguments", words(g, x))
			}
			nodes, recursions := Size(room)
			if n, r := Size(x); n != nodes || r != recursions {
				t.Fatalf("%s: other sizes for equal arguments", words(g, x))
			}
		}
		if !areSame(room, before) || !functor.Same(g, typed(f)) {
			t.Fatalf("%s was changed", words(g, x))
		}
	})
}

// TestChangedResults checks that results can be changed without any effect on others, or on arguments.
func TestChangedResults(t *testing.T) {
	const text = "<(0, {<(1, {#1 : 1, #0 : 3})> : 1, #0 : 2})>"
	f := typed("2 * D(X)")
	x := of("2 * D(X)", text)
	p, s := must(Step(f, x)), must(System(f, x))
	p.Args[1].Weights[0], p.Args[1].Args[0].Terms[0].Body[0].Args[1].Weights[1], p.Args[1].Args[1].Terms[0].Var = 7, 8, 9
	s.Functor.Args[0].N, s.Next[0].Args[1].Weights[0] = 5, 6
	if words(f, x) != text || f.Args[0].N != 2 {
		t.Errorf("%s", words(f, x))
	}
	want, _ := stepText(text)
	if got := wordsOfPart(f, f, must(Step(f, x))); got != want || written(must(System(f, x))) != "type 2 * D(X)\n0 = (0, {0 : 2, 1 : 1})\n1 = (1, {0 : 1, 1 : 3})\n" {
		t.Errorf("%s, %s", got, written(must(System(f, x))))
	}
}
