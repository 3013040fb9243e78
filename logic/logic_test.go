package logic

import (
	"math"
	"reflect"
	"slices"
	"testing"

	"ectype/api"
	"ectype/functor"
	"ectype/sample"
)

// expect checks what Check returns.
func expect(t *testing.T, f string, want api.Errno, formulas ...api.Formula) {
	t.Helper()
	for _, a := range formulas {
		if e := Check(typed(f), a); e != want {
			t.Errorf("%s: %.200q: error %d, not %d", f, words(a), e, want)
		}
	}
}

func TestFormulasForEachKind(t *testing.T) {
	at := node(api.LState, top)
	for f, l := range map[string][]api.Formula{
		"X":     {at, node(api.LState, step(at)), node(api.LState, node(api.LAnd, top, step(top)))},
		"3":     {at1(api.LIs, 0), at1(api.LIs, 1), at1(api.LIs, 2)},
		"2 * X": {node(api.LFirst, at1(api.LIs, 1)), node(api.LSecond, at), node(api.LAnd, node(api.LFirst, top), node(api.LNot, node(api.LSecond, at)))},
		"2 + X": {node(api.LLeft, at1(api.LIs, 1)), node(api.LRight, at), node(api.LLeft, top)},
		"X ^ 3": {at1(api.LAt, 0, at), at1(api.LAt, 1, top), at1(api.LAt, 2, at)},
		"P(X)":  {node(api.LSome, at), node(api.LSome, node(api.LNot, at))},
		"B(X)":  {at1(api.LMany, 1, at), at1(api.LMany, 1048576, top)},
		"D(X)":  {at2(api.LShare, 1, 1, at), at2(api.LShare, 1, 1048576, top), at2(api.LShare, 1048576, 1048576, at), at2(api.LShare, 2, 3, node(api.LNot, top))},
	} {
		for _, a := range slices.Concat(l, []api.Formula{top, nots(3, top), node(api.LAnd, top, nots(1, top))}) {
			expect(t, f, api.OK, step(a), nots(2, step(a)), node(api.LAnd, step(a), top))
		}
		expect(t, f, api.ErrFormula, l...)
	}
	expect(t, "P(B(X)) + (2 * D(X ^ 2))", api.OK,
		step(node(api.LLeft, node(api.LSome, at1(api.LMany, 7, at)))),
		step(node(api.LRight, node(api.LSecond, at2(api.LShare, 1, 2, at1(api.LAt, 1, at))))),
	)
}

// TestSorts gives each operator to formulas of all sorts, with some numbers of Args.
func TestSorts(t *testing.T) {
	fields := map[int][3]int{api.LNot: {0, 0, 1}, api.LAnd: {0, 0, 2}, api.LStep: {0, 0, 1}, api.LMany: {1, 0, 1}, api.LShare: {1, 1, 1}, api.LTop: {}, api.LIs: {}}
	for op := -1; op <= api.LVar+1; op++ {
		n, ok := fields[op]
		if !ok {
			n = [3]int{0, 0, 1}
		}
		_, kind := wordOf(op)
		for many := range 4 {
			a := at2(op, n[0], n[1], slices.Repeat([]api.Formula{top}, many)...)
			asState, asValue := api.ErrFormula, api.ErrFormula
			if many == n[2] && (kind == -2 || kind == -1) {
				asState = api.OK
			}
			for i, f := range oneKind {
				if asValue = api.ErrFormula; many == n[2] && (kind == -2 || kind == i) {
					asValue = api.OK
				}
				expect(t, f, asState, a)
				expect(t, f, asValue, step(a))
			}
		}
	}
}

func TestArgsOfOtherSorts(t *testing.T) {
	at, first, second := node(api.LState, top), node(api.LFirst, at1(api.LIs, 0)), node(api.LSecond, node(api.LState, top))
	expect(t, "2 * X", api.OK, step(first), step(second), step(node(api.LSecond, node(api.LState, step(first)))))
	expect(t, "2 * X", api.ErrFormula,
		first, at, at1(api.LIs, 0),
		step(step(first)), step(at), step(at1(api.LIs, 0)),
		step(node(api.LFirst, at)), step(node(api.LFirst, first)), step(node(api.LSecond, at1(api.LIs, 0))), step(node(api.LSecond, step(first))),
		step(node(api.LSecond, node(api.LState, first))), step(node(api.LSecond, node(api.LState, at))),
		node(api.LNot, first), step(node(api.LNot, step(top))),
		node(api.LAnd, step(first), first), node(api.LAnd, first, step(first)), step(node(api.LAnd, first, step(top))), step(node(api.LAnd, top, at)),
	)
	// the first and the second part of a sum
	expect(t, "2 + P(X)", api.OK, step(node(api.LLeft, at1(api.LIs, 1))), step(node(api.LRight, node(api.LSome, at))))
	expect(t, "2 + P(X)", api.ErrFormula, step(node(api.LRight, at1(api.LIs, 1))), step(node(api.LLeft, node(api.LSome, at))))
	// an error deep in the last part
	for _, f := range []string{"P(X)", "X * P(X)"} {
		deep := at1(api.LIs, 0)
		for range 20 {
			deep = node(api.LAnd, top, nots(1, deep))
		}
		expect(t, f, api.ErrFormula, deep, step(deep))
	}
}

func TestNumbers(t *testing.T) {
	most := api.MaxWeight
	for _, c := range []struct {
		f  string
		op int
		ok [][2]int
		no [][2]int
	}{
		{"3", api.LIs, [][2]int{{0, 0}, {2, 0}}, [][2]int{{-1, 0}, {3, 0}, {16, 0}, {0, 1}, {0, -1}, {math.MaxInt, 0}, {math.MinInt, 0}, {1 << 32, 0}}},
		{"16", api.LIs, [][2]int{{0, 0}, {15, 0}}, [][2]int{{16, 0}}},
		{"1", api.LIs, [][2]int{{0, 0}}, [][2]int{{1, 0}}},
		{"X ^ 1", api.LAt, [][2]int{{0, 0}}, [][2]int{{-1, 0}, {1, 0}}},
		{"X ^ 4", api.LAt, [][2]int{{0, 0}, {3, 0}}, [][2]int{{-1, 0}, {4, 0}, {0, 1}, {0, -1}, {math.MaxInt, 0}, {math.MinInt, 0}, {1 << 32, 0}}},
		{"B(X)", api.LMany, [][2]int{{1, 0}, {most, 0}}, [][2]int{{0, 0}, {-1, 0}, {most + 1, 0}, {1, 1}, {1, -1}, {math.MaxInt, 0}, {math.MinInt, 0}, {1<<32 + 1, 0}}},
		{"D(X)", api.LShare, [][2]int{{1, 1}, {1, 2}, {2, 4}, {1, most}, {most, most}}, [][2]int{{0, 0}, {0, 1}, {1, 0}, {2, 1}, {-1, 1}, {-1, -1}, {1, -1}, {1, most + 1}, {most + 1, most + 1}, {most + 1, most}, {1, math.MaxInt}, {math.MinInt, 1}, {1, 1<<32 + 1}}},
	} {
		var args []api.Formula
		if c.op != api.LIs {
			args = []api.Formula{top}
		}
		for _, n := range c.ok {
			expect(t, c.f, api.OK, step(at2(c.op, n[0], n[1], args...)))
		}
		for _, n := range c.no {
			expect(t, c.f, api.ErrFormula, step(at2(c.op, n[0], n[1], args...)))
		}
	}
}

func TestNumbersWhereThereAreNone(t *testing.T) {
	at := node(api.LState, top)
	for f, a := range map[string]api.Formula{
		"2":     top,
		"3":     nots(1, top),
		"4":     node(api.LAnd, top, top),
		"X":     at,
		"X * X": node(api.LFirst, at),
		"2 * X": node(api.LSecond, at),
		"X + X": node(api.LLeft, at),
		"2 + X": node(api.LRight, at),
		"P(X)":  node(api.LSome, at),
	} {
		expect(t, f, api.OK, step(a))
		for _, n := range [][2]int{{1, 0}, {0, 1}, {-1, 0}, {0, -1}, {1, 1}} {
			a.N, a.M = n[0], n[1]
			expect(t, f, api.ErrFormula, a, step(a))
			b := step(top)
			b.N, b.M = n[0], n[1]
			expect(t, f, api.ErrFormula, b)
		}
	}
}

func TestOperatorsThatAreNone(t *testing.T) {
	for _, op := range []int{-1, api.LVar, api.LVar + 1, math.MinInt, math.MaxInt, 1 << 32, 256} {
		for _, f := range oneKind {
			a := node(op)
			expect(t, f, api.ErrFormula, a, nots(1, a), step(a), step(nots(1, a)), node(op, top), step(node(op, top)), node(api.LAnd, top, a), at1(op, 1))
		}
	}
	expect(t, "X", api.ErrFormula, step(node(api.LState, at1(api.LVar, 0))))
}

func TestLargestFormulas(t *testing.T) {
	for _, f := range oneKind {
		expect(t, f, api.OK, tops(1999), nots(1, tops(1999)), step(tops(1999)), node(api.LAnd, tops(999), nots(1, tops(999))))
		expect(t, f, api.ErrFormula, tops(2001), nots(2, tops(1999)), step(nots(1, tops(1999))), node(api.LAnd, tops(999), tops(1001)), node(api.LAnd, tops(1001), tops(999)))
		expect(t, f, api.OK, nots(99, top), step(nots(98, top)), node(api.LAnd, top, nots(98, top)), node(api.LAnd, nots(98, top), top))
		expect(t, f, api.ErrFormula, nots(100, top), step(nots(99, top)), node(api.LAnd, top, nots(99, top)), node(api.LAnd, nots(99, top), top))
	}
	if n, _, _ := Size(tops(1999)); n != 1999 {
		t.Errorf("%d nodes", n)
	}
	deep := top
	for range 49 {
		deep = step(node(api.LState, deep))
	}
	expect(t, "X", api.OK, deep, nots(1, deep))
	expect(t, "X", api.ErrFormula, nots(2, deep), step(node(api.LState, deep)))
}

func TestFunctorsThatAreNone(t *testing.T) {
	for _, f := range []api.Functor{{Kind: -1}, {Kind: api.FConst}, {Kind: api.FPow}, {Kind: api.FDist + 1, Args: []api.Functor{{}}}, {N: 1}} {
		for _, a := range []api.Formula{top, node(-1), step(top), nots(200, top)} {
			if e := Check(f, a); e != api.ErrFunctor {
				t.Errorf("%v: %v: error %d", f, a, e)
			}
		}
	}
}

// TestHugeTrees checks that Check gives up early.
func TestHugeTrees(t *testing.T) {
	many := make([]api.Formula, 1<<20)
	expect(t, "P(X)", api.ErrFormula, node(api.LAnd, many...), node(api.LTop, many...), node(api.LStep, many...), node(api.LNot, node(api.LAnd, many...)), nots(1<<15, top))
	doubled := top
	for range 98 {
		doubled = node(api.LAnd, doubled, doubled)
	}
	if e := Check(typed("X"), doubled); e != api.ErrFormula {
		t.Errorf("error %d", e)
	}
	if a, e := True(of("type X\n"), doubled); e != api.ErrFormula || len(a) != 0 {
		t.Errorf("True: %v %d", a, e)
	}
}

// TestCheckByDefinition compares Check with the table of the chapter, for formulas with and without a few changes.
func TestCheckByDefinition(t *testing.T) {
	count := map[api.Errno]int{}
	d := sample.Dice(1)
	for _, text := range functors {
		f := typed(text)
		for i := range 1500 {
			a := d.Formula(f, 1+i%9)
			for range d.Below(3) {
				a = d.Changed(a)
			}
			want := api.OK
			if !isFormula(f, nil, a) {
				want = api.ErrFormula
			}
			count[want]++
			expect(t, text, want, a)
		}
	}
	if count[api.OK] < 10000 || count[api.ErrFormula] < 10000 {
		t.Errorf("%v", count)
	}
}

func TestSize(t *testing.T) {
	at := node(api.LState, top)
	for _, c := range []struct {
		a                   api.Formula
		nodes, depth, steps int
	}{
		{top, 1, 1, 0},
		{node(api.LStep), 1, 1, 1},
		{step(top), 2, 2, 1},
		{step(step(top)), 3, 3, 2},
		{step(node(api.LSecond, at)), 4, 4, 1},
		{node(api.LAnd, top, step(top)), 4, 3, 1},
		{node(api.LAnd, step(top), step(step(nots(1, top)))), 7, 5, 2},
		{node(api.LAnd, step(step(step(top))), nots(5, top)), 11, 7, 3},
		{node(api.LAnd, nots(1, step(top)), step(step(top))), 7, 4, 2},
		{node(77, top, node(-1), node(api.LVar, step(top), step(top), step(top))), 10, 4, 1},
		{at2(-5, -6, -7, node(0, node(0, node(0)))), 4, 4, 0},
		{node(api.LNot, step(node(api.LAnd, step(node(api.LTop, step(top))), step(top)))), 9, 7, 3},
		{tops(1999), 1999, 11, 0},
		{nots(20000, step(top)), 20002, 20002, 1},
		{node(1, make([]api.Formula, 30000)...), 30001, 2, 0},
	} {
		if n, d, s := Size(c.a); n != c.nodes || d != c.depth || s != c.steps {
			t.Errorf("%.100q: %d %d %d, not %d %d %d", words(c.a), n, d, s, c.nodes, c.depth, c.steps)
		}
	}
}

func TestSame(t *testing.T) {
	l := []api.Formula{
		top, node(-1), node(api.LVar), at1(0, 1), at1(0, -1), at2(0, 0, 1), at2(0, 1, 1), at2(0, 1, 0, top), at2(0, 0, 1, top),
		nots(1, top), nots(2, top), nots(1, node(api.LStep)), step(top), node(api.LTop, top),
		node(api.LAnd), node(api.LAnd, top), node(api.LAnd, top, top), node(api.LAnd, top, top, top),
		node(api.LAnd, top, step(top)), node(api.LAnd, step(top), top), node(api.LAnd, step(top), step(top)), node(api.LAnd, node(api.LAnd, top, top), top), node(api.LAnd, top, node(api.LAnd, top, top)),
		at1(api.LIs, 1), at1(api.LIs, 2), at1(api.LMany, 1, top), at1(api.LMany, 1, nots(1, top)), at2(api.LShare, 1, 2, top), at2(api.LShare, 2, 1, top), at2(api.LShare, 2, 2, top),
		at1(api.LIs, math.MaxInt), at1(api.LIs, math.MinInt), at1(api.LIs, 1<<32), at1(api.LIs, 1<<32+1),
	}
	for i, a := range l {
		for j, b := range l {
			if is := Same(a, copied(b)); is != (i == j) {
				t.Errorf("%v and %v: %v", a, b, is)
			}
		}
	}
	if !Same(api.Formula{Args: []api.Formula{}}, top) || !Same(top, api.Formula{Args: []api.Formula{}}) || !Same(step(top), step(api.Formula{Args: make([]api.Formula, 0, 5)})) {
		t.Error("an empty slice is not like nil")
	}
	if !Same(nots(20000, top), nots(20000, top)) || Same(nots(20000, top), nots(20000, step(top))) || Same(nots(20000, top), nots(19999, top)) {
		t.Error("deep trees")
	}
}

// TestMemory checks that arguments are not changed, and neither read nor written beyond the lengths of their slices, and that results are new.
func TestMemory(t *testing.T) {
	list := func() []api.Formula { return []api.Formula{step(top), nots(1, top), at2(99, 1, 2), node(98)} }
	all := list()
	a := node(api.LAnd, all[:2]...)
	f, s := typed("2 * D(X)"), of(coins)
	again := node(api.LAnd, slices.Clone(all[:2])...)
	for range 2 {
		n, d, k := Size(a)
		if e := Check(f, a); e != api.OK || n != 5 || d != 3 || k != 1 || !Same(a, again) || !Same(again, a) {
			t.Errorf("%d %d %d %d", e, n, d, k)
		}
		if text := must(String(f, a)); text != "(step top and not top)" {
			t.Error(text)
		}
		if l := must(True(s, a)); len(l) != 0 || must(Holds(s, 0, a)) {
			t.Errorf("true of %v", l)
		}
	}
	if !reflect.DeepEqual(all, list()) || !reflect.DeepEqual(s, of(coins)) || !functor.Same(f, typed("2 * D(X)")) {
		t.Error("an argument was changed")
	}
	l := must(True(s, step(top)))
	_ = append(l[:0], 7, 7, 7)
	if again := must(True(s, step(top))); !slices.Equal(again, []int{0, 1, 2}) {
		t.Errorf("another result became %v", again)
	}
}

func TestResultsOfParseAreNew(t *testing.T) {
	const text = "(step second share 1 / 2 at top and (not step first is 1 and top))"
	f := typed("2 * D(X)")
	a, b := must(Parse(f, text)), must(Parse(f, text))
	spoil(&a)
	if s := must(String(f, b)); s != text {
		t.Errorf("another result became %s", s)
	}
	if s := must(String(f, must(Parse(f, text)))); s != text {
		t.Errorf("a later result is %s", s)
	}
	spoil(&b.Args[0])
	if s := must(String(f, b.Args[1])); s != "(not step first is 1 and top)" {
		t.Errorf("one part changed the other to %s", s)
	}
}

// spoil changes all nodes of a, and writes beyond the lengths of its slices.
func spoil(a *api.Formula) {
	for i := range a.Args {
		spoil(&a.Args[i])
	}
	_ = append(a.Args, at2(77, 77, 77), at2(77, 77, 77))
	a.Op, a.N, a.M = 77, 77, 77
}
