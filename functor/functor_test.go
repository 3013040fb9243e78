package functor

import (
	"fmt"
	"math"
	"reflect"
	"strings"
	"testing"

	"ectype/api"
)

// node returns a functor of a kind.
func node(kind, n int, args ...api.Functor) api.Functor {
	return api.Functor{Kind: kind, N: n, Args: args}
}

func id() api.Functor                      { return node(api.FId, 0) }
func constant(n int) api.Functor           { return node(api.FConst, n) }
func prod(f, g api.Functor) api.Functor    { return node(api.FProd, 0, f, g) }
func sum(f, g api.Functor) api.Functor     { return node(api.FSum, 0, f, g) }
func exp(f api.Functor, n int) api.Functor { return node(api.FExp, n, f) }
func pow(f api.Functor) api.Functor        { return node(api.FPow, 0, f) }
func bag(f api.Functor) api.Functor        { return node(api.FBag, 0, f) }
func dist(f api.Functor) api.Functor       { return node(api.FDist, 0, f) }

// chain returns f in as many FPow as n says.
func chain(n int, f api.Functor) api.Functor {
	for range n {
		f = pow(f)
	}
	return f
}

// bush returns a tree of the depth in which each product has equal operands, which share memory.
func bush(depth int) api.Functor {
	f := id()
	for range depth - 1 {
		f = prod(f, f)
	}
	return f
}

// nodes20 has MaxKinds nodes: a full tree of depth 4, and two products and their new operands.
func nodes20() api.Functor {
	return pow(prod(prod(bush(4), id()), id()))
}

func TestValidFunctors(t *testing.T) {
	for name, f := range map[string]api.Functor{
		"state":            id(),
		"state, no args":   {Kind: api.FId, Args: []api.Functor{}},
		"least constant":   constant(1),
		"most constant":    constant(api.MaxConst),
		"product":          prod(constant(2), id()),
		"sum":              sum(constant(1), id()),
		"one input":        exp(id(), 1),
		"most inputs":      exp(id(), api.MaxInputs),
		"sets":             pow(id()),
		"multisets":        bag(constant(3)),
		"distributions":    dist(sum(id(), id())),
		"depth MaxHeight":  chain(api.MaxHeight-1, id()),
		"MaxKinds nodes":   nodes20(),
		"all kinds in one": sum(prod(constant(2), exp(id(), 2)), pow(bag(dist(id())))),
	} {
		if e := Check(f); e != api.OK {
			t.Errorf("%s: %d, not OK", name, e)
		}
	}
	if n, _ := Size(nodes20()); n != api.MaxKinds {
		t.Errorf("nodes20 has %d nodes", n)
	}
}

// invalidFunctors returns functors that are not valid, by names.
func invalidFunctors() map[string]api.Functor {
	l := map[string]api.Functor{
		"kind below":             node(-1, 0),
		"kind above":             node(api.FDist+1, 0),
		"least kind":             node(math.MinInt, 0),
		"greatest kind":          node(math.MaxInt, 0),
		"state with a number":    node(api.FId, 1),
		"state with an argument": node(api.FId, 0, id()),
		"constant 0":             constant(0),
		"constant below 0":       constant(-1),
		"constant above":         constant(api.MaxConst + 1),
		"constant with argument": node(api.FConst, 2, id()),
		"no inputs":              exp(id(), 0),
		"inputs below 0":         exp(id(), -2),
		"too many inputs":        exp(id(), api.MaxInputs+1),
		"least inputs":           exp(id(), math.MinInt),
		"too deep":               chain(api.MaxHeight, id()),
		"too many nodes":         prod(nodes20().Args[0], constant(1)),
		"huge":                   bush(1 << 16),
		"within a product":       prod(id(), constant(0)),
		"within a sum":           sum(node(9, 0), id()),
		"within sets":            pow(exp(id(), 5)),
	}
	for kind, args := range []int{0, 0, 2, 2, 1, 1, 1, 1} {
		n := 0
		if kind == api.FConst || kind == api.FExp {
			n = 1
		}
		for k := range 4 {
			if k != args {
				l[fmt.Sprintf("kind %d with %d arguments", kind, k)] = node(kind, n, make([]api.Functor, k)...)
			}
		}
		if n == 0 {
			for _, n := range []int{-1, 1, math.MinInt, math.MaxInt} {
				l[fmt.Sprintf("kind %d with the number %d", kind, n)] = node(kind, n, make([]api.Functor, args)...)
			}
		}
	}
	return l
}

// TestInvalidFunctors also checks that results next to an error are zero values.
func TestInvalidFunctors(t *testing.T) {
	for name, f := range invalidFunctors() {
		if e := Check(f); e != api.ErrFunctor {
			t.Errorf("%s: Check %d", name, e)
		}
		if b, e := Polynomial(f); b || e != api.ErrFunctor {
			t.Errorf("%s: Polynomial %v %d", name, b, e)
		}
		if b, e := Plain(f); b || e != api.ErrFunctor {
			t.Errorf("%s: Plain %v %d", name, b, e)
		}
		if s, e := String(f); s != "" || e != api.ErrFunctor {
			t.Errorf("%s: String %q %d", name, s, e)
		}
	}
}

func TestValidityInsideItself(t *testing.T) {
	f := pow(id())
	f.Args[0] = f
	if e := Check(f); e != api.ErrFunctor {
		t.Errorf("Check %d", e)
	}
}

func TestSize(t *testing.T) {
	for _, c := range []struct {
		name         string
		f            api.Functor
		nodes, depth int
	}{
		{"state", id(), 1, 1},
		{"no args", api.Functor{Args: []api.Functor{}}, 1, 1},
		{"unknown kind", node(-7, math.MaxInt), 1, 1},
		{"automaton", prod(constant(2), exp(id(), 2)), 4, 3},
		{"deeper on the left", prod(pow(pow(id())), id()), 5, 4},
		{"state with arguments", node(api.FId, 0, id(), pow(id()), constant(0)), 5, 3},
		{"MaxKinds nodes", nodes20(), 20, 7},
		{"full", bush(16), 1<<16 - 1, 16},
		{"very deep", chain(1<<16-1, id()), 1 << 16, 1 << 16},
		{"very wide", node(0, 0, make([]api.Functor, 100000)...), 100001, 2},
	} {
		if n, d := Size(c.f); n != c.nodes || d != c.depth {
			t.Errorf("%s: %d %d, not %d %d", c.name, n, d, c.nodes, c.depth)
		}
	}
}

func TestSame(t *testing.T) {
	l := []api.Functor{
		id(),
		constant(1),
		constant(2),
		pow(id()),
		bag(id()),
		pow(constant(1)),
		prod(id(), constant(1)),
		prod(constant(1), id()),
		sum(id(), constant(1)),
		exp(id(), 2),
		exp(id(), 3),
		node(-1, 0),
		node(-1, math.MinInt),
		node(api.FId, 0, id()),
		node(api.FId, 0, id(), id()),
		node(api.FProd, 0, id(), id(), id()),
		chain(1<<16-1, id()),
		chain(1<<16-1, constant(1)),
	}
	for i, f := range l {
		for j, g := range l {
			if Same(f, g) != (i == j) {
				t.Errorf("%d and %d: %v", i, j, i != j)
			}
		}
	}
	if !Same(id(), api.Functor{Args: []api.Functor{}}) {
		t.Error("an empty slice and nil differ")
	}
	if !Same(prod(constant(2), pow(id())), prod(constant(2), pow(id()))) {
		t.Error("equal functors differ")
	}
}

func TestKinds(t *testing.T) {
	for _, c := range []struct {
		f                 api.Functor
		polynomial, plain bool
	}{
		{id(), true, true},
		{constant(3), true, true},
		{prod(constant(2), exp(id(), 2)), true, true},
		{sum(constant(1), exp(exp(id(), 4), 1)), true, true},
		{pow(id()), false, true},
		{bag(id()), false, false},
		{dist(id()), false, false},
		{prod(constant(2), pow(id())), false, true},
		{prod(bag(constant(1)), constant(2)), false, false},
		{sum(id(), dist(id())), false, false},
		{exp(pow(id()), 2), false, true},
		{pow(bag(id())), false, false},
		{bag(pow(id())), false, false},
		{chain(api.MaxHeight-2, dist(id())), false, false},
	} {
		if b, e := Polynomial(c.f); b != c.polynomial || e != api.OK {
			t.Errorf("%v: Polynomial %v %d", c.f, b, e)
		}
		if b, e := Plain(c.f); b != c.plain || e != api.OK {
			t.Errorf("%v: Plain %v %d", c.f, b, e)
		}
	}
}

func TestString(t *testing.T) {
	for _, c := range []struct {
		f    api.Functor
		want string
	}{
		{id(), "X"},
		{constant(16), "16"},
		{prod(constant(2), exp(id(), 2)), "2 * X ^ 2"},
		{pow(prod(constant(2), exp(id(), 2))), "P(2 * X ^ 2)"},
		{sum(constant(1), prod(constant(3), id())), "1 + (3 * X)"},
		{exp(exp(id(), 2), 3), "(X ^ 2) ^ 3"},
		{exp(exp(exp(id(), 1), 2), 3), "((X ^ 1) ^ 2) ^ 3"},
		{exp(prod(id(), constant(4)), 2), "(X * 4) ^ 2"},
		{exp(exp(sum(id(), id()), 2), 3), "((X + X) ^ 2) ^ 3"},
		{exp(constant(3), 4), "3 ^ 4"},
		{exp(bag(id()), 2), "B(X) ^ 2"},
		{prod(exp(id(), 2), exp(id(), 3)), "X ^ 2 * X ^ 3"},
		{prod(prod(id(), id()), id()), "(X * X) * X"},
		{sum(id(), sum(id(), id())), "X + (X + X)"},
		{dist(sum(constant(1), prod(id(), id()))), "D(1 + (X * X))"},
		{bag(prod(pow(sum(id(), id())), exp(id(), 1))), "B(P(X + X) * X ^ 1)"},
		{bag(exp(prod(id(), id()), 2)), "B((X * X) ^ 2)"},
		{pow(pow(exp(exp(id(), 2), 2))), "P(P((X ^ 2) ^ 2))"},
		{prod(dist(id()), bag(id())), "D(X) * B(X)"},
	} {
		if s, e := String(c.f); s != c.want || e != api.OK {
			t.Errorf("%q %d, not %q", s, e, c.want)
		}
	}
}

// TestMemory checks that arguments are not changed, also beyond the lengths of their slices, and that results share no memory.
func TestMemory(t *testing.T) {
	list := []api.Functor{constant(2), exp(id(), 2), constant(99), constant(98)}
	f := node(api.FProd, 0, list[:2]...)
	g := node(api.FProd, 0, append([]api.Functor{}, list[:2]...)...)
	Size(f)
	if Check(f) != api.OK || !Same(f, g) || !Same(g, f) {
		t.Error("elements beyond the length count")
	}
	if b, e := Polynomial(f); !b || e != api.OK {
		t.Error("Polynomial", b, e)
	}
	if b, e := Plain(f); !b || e != api.OK {
		t.Error("Plain", b, e)
	}
	if s, e := String(f); s != "2 * X ^ 2" || e != api.OK {
		t.Error("String", s, e)
	}
	want := []api.Functor{constant(2), exp(id(), 2), constant(99), constant(98)}
	if !reflect.DeepEqual(list, want) {
		t.Error("the argument was changed")
	}
}

func TestResultsOfParseAreNew(t *testing.T) {
	const text = "(X * 2) + P((X ^ 2 * B(X)) ^ 3)"
	f, _ := Parse(text)
	g, _ := Parse(text)
	spoil(&f)
	if s, e := String(g); s != text || e != api.OK {
		t.Errorf("another result became %q %d", s, e)
	}
	g, e := Parse(text)
	if s, _ := String(g); s != text || e != api.OK {
		t.Errorf("a later result is %q %d", s, e)
	}
	for i := range g.Args {
		before, _ := String(g.Args[1-i])
		spoil(&g.Args[i])
		if after, _ := String(g.Args[1-i]); i == 0 && before != after {
			t.Errorf("one part changed the other to %q", after)
		}
	}
}

// spoil changes all nodes of f, and writes beyond the lengths of its slices.
func spoil(f *api.Functor) {
	for i := range f.Args {
		spoil(&f.Args[i])
	}
	_ = append(f.Args, constant(77), constant(77))
	f.Kind, f.N = 77, 77
}

func TestEqualCallsHaveEqualResults(t *testing.T) {
	for _, s := range []string{"2 * D(X)", "((X)) ^ 4", "X ^", "17", strings.Repeat("(", api.MaxText+1)} {
		f, e := Parse(s)
		for range 20 {
			if g, d := Parse(s); d != e || !Same(f, g) {
				t.Errorf("%.20q: %v %d, then %v %d", s, f, e, g, d)
			}
		}
	}
}
