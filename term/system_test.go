package term

import (
	"fmt"
	"slices"
	"strings"
	"testing"

	"ectype/api"
	"ectype/equiv"
	"ectype/fold"
	"ectype/sample"
	"ectype/system"
)

// systemOf returns the system of the term of a functor with a string.
func systemOf(f, text string) api.System { return must(System(typed(f), of(f, text))) }

func TestSystem(t *testing.T) {
	for _, c := range []struct {
		f, text string
		next    []string
	}{
		{"2 * D(X)", "<(0, {<(1, {#0 : 1})> : 1, <(1, {#0 : 1})> : 2})>", []string{"(0, {1 : 1, 2 : 2})", "(1, {1 : 1})", "(1, {2 : 1})"}},
		{"P(X)", "<{<{}>, #0, <{}>}>", []string{"{0, 1, 2}", "{}", "{}"}},
		{"X", "<#0>", []string{"0"}},
		{"X", "<<<#2>>>", []string{"1", "2", "0"}},
		{"X", "<<<#1>>>", []string{"1", "2", "1"}},
		{"X", "<<<#0>>>", []string{"1", "2", "2"}},
		{"3", "<2>", []string{"2"}},
		{"1 + X", "<r <r <l 0>>>", []string{"r 1", "r 2", "l 0"}},
		{"X ^ 2", "<[<[#1, <[#2, #1]>]>, <[#0, #1]>]>", []string{"[1, 3]", "[0, 2]", "[0, 1]", "[3, 0]"}},
		{"X * X", "<(<(#1, <(#0, #2)>)>, #0)>", []string{"(1, 0)", "(0, 2)", "(2, 0)"}},
		// Elements in any order, and equal ones: the order of the numbers is that in which they are written.
		{"P(X)", "<{<{#1, #0, #1}>, #0, <{#0, #1, #0, #1}>, #0, #0}>", []string{"{0, 1, 2}", "{0, 1}", "{0, 2}"}},
		{"B(X)", "<{<{#1 : 3, #0 : 2, #1 : 1}> : 7, #0 : 2, #0 : 4}>", []string{"{0 : 6, 1 : 7}", "{0 : 4, 1 : 2}"}},
		{"D(X)", "<{<{#1 : 3, #0 : 2, #1 : 1}> : 6, #0 : 2, #0 : 4}>", []string{"{0 : 1, 1 : 1}", "{0 : 2, 1 : 1}"}},
		{"D(X)", "<{#0 : 1048576}>", []string{"{0 : 1}"}},
		{"B(X)", "<{#0 : 1, #0 : 1048575}>", []string{"{0 : 1048576}"}},
		{"P(P(X))", "<{{#0, <{}>}, {}, {<{{#1, #0}}>, #0}, {#0, #0}, {}}>", []string{"{{}, {0}, {0, 1}, {0, 2}}", "{}", "{{0, 2}}"}},
		{"P(D(X))", "<{{#0 : 2, #0 : 1}, {#0 : 5}}>", []string{"{{0 : 1}}"}},
		{"D(P(1 + X))", "<{{r #0, l 0, r #0} : 2, {l 0, r #0} : 2, {} : 2}>", []string{"{{} : 1, {l 0, r 0} : 2}"}},
	} {
		want := states(c.f, c.next...)
		if s, e := System(typed(c.f), of(c.f, c.text)); e != api.OK || !system.Same(s, want) {
			t.Errorf("%s: error %d, %s, not %s", c.text, e, written(s), written(want))
		}
	}
	if s := systemOf("2 * D(X)", "<(0, {<(1, {#0 : 1})> : 1, <(1, {#0 : 1})> : 2})>"); written(s) != coins {
		t.Error(written(s))
	}
}

// TestSystemByDefinition compares systems with those that are written with states instead of terms.
func TestSystemByDefinition(t *testing.T) {
	sizes := map[int]int{}
	samples(150, 12, func(d *sample.Dice, f string, x api.Term) {
		text := words(typed(f), x)
		next, _ := sample.NextTexts(text)
		want := states(f, next...)
		s, e := System(typed(f), x)
		if e != api.OK || !system.Same(s, want) || system.Check(s) != api.OK {
			t.Fatalf("%s: error %d, %s, not %s", text, e, written(s), written(want))
		}
		if _, recursions := Size(x); recursions != len(s.Next) {
			t.Fatalf("%s: %d states", text, len(s.Next))
		}
		sizes[len(s.Next)]++
	})
	if sizes[12] < 50 || sizes[3] < 50 {
		t.Errorf("%v", sizes)
	}
}

// tooLarge checks that System returns ErrLarge for a valid term.
func tooLarge(t *testing.T, f string, x api.Term) {
	t.Helper()
	expect(t, api.OK, f, x)
	if s, e := System(typed(f), x); e != api.ErrLarge || !isZeroSystem(s) {
		t.Errorf("%s: %s: error %d", f, short(x), e)
	}
}

func TestMaxStates(t *testing.T) {
	end := within(rec(node()))
	for _, n := range []int{1, 50, 99} {
		s, e := System(typed("P(X)"), rec(node(times(n, end)...)))
		if e != api.OK || len(s.Next) != n+1 || len(s.Next[0].Args) != n {
			t.Errorf("%d recursions: error %d, %d states", n+1, e, len(s.Next))
		}
	}
	tooLarge(t, "P(X)", rec(node(times(100, end)...)))
	tooLarge(t, "P(X)", rec(node(times(600, end)...)))
	if s, e := System(typed("X"), chain(api.MaxDepth, 99)); e != api.OK || len(s.Next) != 100 || s.Next[99].N != 0 || s.Next[42].N != 43 {
		t.Errorf("error %d, %d states", e, len(s.Next))
	}
	tooLarge(t, "X ^ 2", rec(node(within(chainOfPairs(50)), within(chainOfPairs(50)))))
	if s, e := System(typed("X ^ 2"), rec(node(within(chainOfPairs(50)), within(chainOfPairs(49))))); e != api.OK || len(s.Next) != 100 || s.Next[0].Args[1].N != 51 {
		t.Errorf("error %d, %d states", e, len(s.Next))
	}
}

// chainOfPairs returns so many recursions of X ^ 2 within each other.
func chainOfPairs(recursions int) api.Term {
	x := rec(node(leaf(0), leaf(0)))
	for range recursions - 1 {
		x = rec(node(leaf(0), within(x)))
	}
	return x
}

// pairs returns the strings of so many different pairs of numbers, each with an end.
func pairs(n int, end string) []string {
	var l []string
	for i := range n {
		l = append(l, fmt.Sprintf("(%d, %d)%s", i/16, i%16, end))
	}
	return l
}

// TestMaxArgs has sets, multisets and distributions with MaxArgs different elements, and with more.
func TestMaxArgs(t *testing.T) {
	for f, ends := range map[string][2]string{"P": {"", ""}, "B": {" : 3", " : 9"}, "D": {" : 6", " : 1"}} {
		pair := f + "(16 * 16)"
		for g, around := range map[string]string{pair: "<%s>", "P(" + pair + ")": "<{%s}>", "1 + " + pair: "<r %s>", "2 * " + pair: "<(1, %s)>"} {
			text := func(elements []string) string { return fmt.Sprintf(around, list("{", elements, "}")) }
			elements := pairs(100, ends[0])
			s := systemOf(g, text(slices.Repeat(elements, 3)))
			want := states(g, strings.Trim(text(pairs(100, ends[1])), "<>"))
			if !system.Same(s, want) || len(s.Next) != 1 {
				t.Errorf("%s: %s", g, written(s))
			}
			tooLarge(t, g, of(g, text(pairs(101, ends[0]))))
			tooLarge(t, g, of(g, text(append(elements, pairs(101, ends[0])...))))
		}
	}
	// A set that is not that of the first recursion, and one whose inner sets are too large, but equal.
	inner := list("{", pairs(101, ""), "}")
	tooLarge(t, "P(P(16 * 16))", of("P(P(16 * 16))", "<{"+inner+", "+inner+"}>"))
	tooLarge(t, "X * P(16 * 16)", of("X * P(16 * 16)", "<(<(#1, "+inner+")>, {})>"))
	// States that are different, although they behave alike, are different elements.
	f := "P(X * 2)"
	elements := []string{"(#0, 0)", "(#0, 1)"}
	for range 49 {
		elements = append(elements, "(<{}>, 0)", "(#0, 1)")
	}
	if s := systemOf(f, "<"+list("{", elements, "}")+">"); len(s.Next) != 50 || len(s.Next[0].Args) != 51 {
		t.Error(written(s))
	}
	var both []string
	for range 50 {
		both = append(both, "(<{(#0, 0), (#0, 1)}>, 1)")
	}
	both = append(both, slices.Repeat([]string{"(#0, 0)"}, 300)...)
	if s := systemOf(f, "<"+list("{", both, "}")+">"); len(s.Next) != 51 || len(s.Next[0].Args) != 51 {
		t.Error(written(s))
	}
}

// TestTermsOfMaxTerm has terms with MaxTerm nodes: their values are not too large.
func TestTermsOfMaxTerm(t *testing.T) {
	elements := times(api.MaxTerm-2, number(1))
	if s, e := System(typed("P(2)"), rec(node(elements...))); e != api.OK || written(s) != "type P(2)\n0 = {1}\n" {
		t.Errorf("error %d, %v", e, s)
	}
	if s, e := System(typed("D(2)"), rec(weighed(times(len(elements), 500), elements...))); e != api.OK || written(s) != "type D(2)\n0 = {1 : 1}\n" {
		t.Errorf("error %d, %v", e, s)
	}
	if s, e := System(typed("B(2)"), rec(weighed(times(len(elements), 500), elements...))); e != api.OK || written(s) != "type B(2)\n0 = {1 : 999000}\n" {
		t.Errorf("error %d, %v", e, s)
	}
	f := "P(P(16 * 16)) ^ 3"
	var sets []string
	for _, n := range []int{78, 77, 76, 75, 74, 73, 72, 71, 66} {
		sets = append(sets, list("{", pairs(n, ""), "}"))
	}
	text := "<[" + list("{", sets[:3], "}") + ", " + list("{", sets[3:6], "}") + ", " + list("{", sets[6:], "}") + "]>"
	if n, _ := Size(of(f, text)); n != api.MaxTerm {
		t.Fatalf("%d nodes", n)
	}
	if s := systemOf(f, text); !system.Same(s, states(f, text[1:len(text)-1])) {
		t.Error(written(s))
	}
}

// shuffled returns a part of g with the elements of collections in another order, and those of sets often twice.
func shuffled(d *sample.Dice, g api.Functor, p api.Part, f api.Functor) api.Part {
	q := api.Part{N: p.N}
	for i, a := range p.Args {
		h := fold.Part(g, api.Value{N: p.N}, i)
		at := len(q.Args)
		if g.Kind >= api.FPow {
			at = d.Below(at + 1)
		}
		q.Args = slices.Insert(q.Args, at, shuffled(d, h, a, f))
		if len(p.Weights) > 0 {
			q.Weights = slices.Insert(q.Weights, at, p.Weights[i])
		}
		if g.Kind == api.FPow && d.Below(2) == 0 {
			q.Args = slices.Insert(q.Args, d.Below(at+1), shuffled(d, h, a, f))
		}
	}
	for _, t := range p.Terms {
		q.Terms = []api.Term{shuffledTerm(d, t, f)}
	}
	return q
}

func shuffledTerm(d *sample.Dice, t api.Term, f api.Functor) api.Term {
	if len(t.Body) == 0 {
		return t
	}
	return rec(shuffled(d, f, t.Body[0], f))
}

// TestOrder checks that another order of elements, and elements of sets that are there twice, change neither the behavior nor,
// if there are no recursions in the elements, the system. (The numbers of recursions follow their order.)
func TestOrder(t *testing.T) {
	flat, deep := 0, 0
	samples(60, 7, func(d *sample.Dice, f string, x api.Term) {
		g := typed(f)
		y := shuffledTerm(d, x, g)
		if _, recursions := Size(y); recursions > api.MaxStates || Check(g, y) != api.OK {
			return
		}
		s, u := must(System(g, x)), must(System(g, y))
		if !must(equiv.Alike(s, u, 0, 0)) {
			t.Fatalf("%s and %s", words(g, x), words(g, y))
		}
		deep++
		if len(s.Next) == 1 {
			flat++
			if !system.Same(s, u) {
				t.Fatalf("%s and %s", words(g, x), words(g, y))
			}
		}
	})
	if flat < 200 || deep < 1000 {
		t.Errorf("%d, %d of which have one recursion", deep, flat)
	}
	for _, c := range [][3]string{
		{"X * P(X)", "<(<(#1, {#0, #1, #0})>, {#0})>", "<(<(#1, {#1, #0})>, {#0, #0})>"},
		{"X * B(X)", "<(<(#1, {#0 : 2, #1 : 1})>, {#0 : 2})>", "<(<(#1, {#1 : 1, #0 : 1, #0 : 1})>, {#0 : 1, #0 : 1})>"},
		{"X * D(X)", "<(<(#1, {#0 : 2, #1 : 1})>, {#0 : 2})>", "<(<(#1, {#1 : 2, #0 : 1, #0 : 3})>, {#0 : 1, #0 : 1})>"},
		{"P(X)", "<{<{#1}>, #0}>", "<{#0, <{#1, #1}>, #0}>"},
	} {
		if s, u := systemOf(c[0], c[1]), systemOf(c[0], c[2]); !system.Same(s, u) || len(s.Next) != 2 {
			t.Errorf("%s and %s", c[1], c[2])
		}
	}
}
