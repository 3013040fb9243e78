package recur

import (
	"math"
	"reflect"
	"slices"
	"testing"

	"ectype/api"
	"ectype/functor"
	"ectype/scan"
	"ectype/system"
	"ectype/value"
)

func typed(text string) api.Functor {
	f, e := functor.Parse(text)
	if e != api.OK {
		panic(text)
	}
	return f
}

// of returns the term of a functor with a string, wherever its variables refer to.
func of(f, text string) api.Term {
	t, ok := scan.All(text, func(r *scan.Reader) api.Term { return Read(r, typed(f)) })
	if !ok {
		panic(text)
	}
	return t
}

// nested returns so many recursions of X within each other, the innermost one with the variable k.
func nested(recursions, k int) api.Term {
	t := api.Term{Var: k}
	for range recursions {
		t = api.Term{Body: []api.Part{{Terms: []api.Term{t}}}}
	}
	return t
}

func TestTermsWithThingsOutside(t *testing.T) {
	for _, c := range []struct {
		f, text string
		outside int // how many things there have to be outside
	}{
		{"X", "#0", 1},
		{"X", "#6", 7},
		{"X", "<#0>", 0},
		{"X", "<#1>", 1},
		{"X", "<<<#2>>>", 0},
		{"X", "<<<#3>>>", 1},
		{"X", "<<<#99>>>", 97},
		{"2 * X ^ 2", "<(1, [<(0, [#1, #2])>, #1])>", 1},
		{"2 * X ^ 2", "<(1, [<(0, [#1, #2])>, #4])>", 4},
		{"P(X)", "<{<{#1, #1}>, <{#3}>, #0}>", 2},
		{"D(1 + X)", "<{r <{l 0 : 3}> : 2, r #0 : 2, r #2 : 1}>", 2},
	} {
		for outside := range 100 {
			if got := IsTerm(typed(c.f), of(c.f, c.text), outside); got != (outside >= c.outside) {
				t.Errorf("%s with %d things outside: %v", c.text, outside, got)
			}
		}
		if got := Text(typed(c.f), of(c.f, c.text)); got != c.text {
			t.Errorf("%s: %s", c.text, got)
		}
	}
	for _, k := range []int{-1, math.MinInt, math.MaxInt, 200} {
		if IsTerm(typed("X"), nested(1, k), 100) {
			t.Errorf("variable %d", k)
		}
	}
	if !IsTerm(typed("X"), nested(api.MaxDepth, 199), 100) || IsTerm(typed("X"), nested(api.MaxDepth+1, 0), 100) {
		t.Error("a wrong depth")
	}
}

// copied returns t with other numbers of variables, if that is not too large.
func copied(t api.Term, around int, number func(k, around int) int) (api.Term, bool) {
	return Copied(func(c *Copier) api.Term {
		ofTerm, _ := c.Copies(func(k, around int) api.Term { return c.Variable(number(k, around)) })
		return ofTerm(t, around)
	})
}

func TestCopies(t *testing.T) {
	x := of("2 * B(X)", "<(1, {<(0, {#1 : 4, #0 : 2})> : 3, #7 : 3, #0 : 1})>")
	y, ok := copied(x, 5, func(k, around int) int { return 10*around + k })
	if got := Text(typed("2 * B(X)"), y); !ok || got != "<(1, {<(0, {#71 : 4, #70 : 2})> : 3, #67 : 3, #60 : 1})>" {
		t.Errorf("%s %v", got, ok)
	}
	y.Body[0].Args[1].Weights[0], y.Body[0].Args[0].N = 9, 9
	if Text(typed("2 * B(X)"), x) != "<(1, {<(0, {#1 : 4, #0 : 2})> : 3, #7 : 3, #0 : 1})>" {
		t.Error("a copy shares the memory of what is copied")
	}
}

// TestLimitsOfCopies has copies that are as large, or as deep, as they may be, and larger ones.
func TestLimitsOfCopies(t *testing.T) {
	same := func(k, _ int) int { return k }
	set := func(elements int) api.Term {
		return api.Term{Body: []api.Part{{Args: slices.Repeat([]api.Part{{Terms: []api.Term{{}}}}, elements)}}}
	}
	for _, c := range []struct {
		t      api.Term
		around int
		want   bool
	}{
		{nested(100, 0), 0, true},
		{nested(101, 0), 0, false},
		{nested(1, 0), 99, true},
		{nested(1, 0), 100, false},
		{nested(0, 0), 100, true},
		{set(999), 0, true},
		{set(1000), 0, false},
		{set(1 << 20), 0, false},
	} {
		x, ok := copied(c.t, c.around, same)
		if ok != c.want || ok != reflect.DeepEqual(x, c.t) || !ok && !reflect.DeepEqual(x, api.Term{}) {
			t.Errorf("%d recursions around it: %v", c.around, ok)
		}
	}
	// All that is copied counts, also in several copies.
	for _, c := range []struct {
		terms, left int
		want        bool
	}{{4, 0, true}, {4, 1, false}, {3, 500, true}, {3, 501, false}} {
		_, ok := Copied(func(c2 *Copier) int {
			ofTerm, _ := c2.Copies(func(k, _ int) api.Term { return c2.Variable(k) })
			for range c.terms {
				ofTerm(set(249), 0)
			}
			for range c.left {
				c2.Variable(0)
			}
			return 0
		})
		if ok != c.want {
			t.Errorf("%d terms and %d variables: %v", c.terms, c.left, ok)
		}
	}
}

func TestSystemOfSeveralTerms(t *testing.T) {
	f := "P(X)"
	l := []api.Term{of(f, "<{#4, #1, <{#3, #1}>, #1}>"), of(f, "<{#2}>")}
	s, ok := System(typed(f), l, []int{0, 2, 1, 0})
	if text, e := system.String(s); !ok || e != api.OK || text != "type P(X)\n0 = {0, 1}\n1 = {0, 2}\n2 = {2}\n" {
		t.Errorf("%q %d %v", text, e, ok)
	}
	if s, ok := System(typed("X"), []api.Term{nested(60, 0), nested(41, 0)}, nil); ok || len(s.Next) > 0 {
		t.Error("more than MaxStates states")
	}
	if s, ok := System(typed("X"), []api.Term{nested(60, 0), nested(40, 1+39)}, []int{60}); !ok || len(s.Next) != 100 || s.Next[99].N != 60 || s.Next[59].N != 59 {
		t.Errorf("%v %v", s, ok)
	}
}

func TestPartOf(t *testing.T) {
	f := typed("2 * B(1 + X)")
	v, _ := value.Parse(f, 5, "(1, {l 0 : 3, r 2 : 1, r 4 : 2})")
	p := PartOf(f, v, func(x int) api.Term { return api.Term{Var: 10 * x} })
	if got := Text(f, api.Term{Body: []api.Part{p}}); got != "<(1, {l 0 : 3, r #20 : 1, r #40 : 2})>" {
		t.Error(got)
	}
	p.Args[1].Weights[0] = 7
	if v.Args[1].Weights[0] != 3 {
		t.Error("a part shares the memory of the value")
	}
}
