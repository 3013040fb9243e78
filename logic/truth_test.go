package logic

import (
	"fmt"
	"math"
	"slices"
	"strings"
	"testing"

	"ectype/api"
	"ectype/sample"
)

func TestTrue(t *testing.T) {
	const (
		set     = "type P(X)\n0 = {}\n1 = {0}\n2 = {0, 1}\n3 = {1, 2}\n"
		bag     = "type B(X)\n0 = {}\n1 = {0 : 3}\n2 = {0 : 1, 1 : 2}\n3 = {1 : 1, 2 : 5}\n"
		choices = "type X + 2\n0 = l 1\n1 = l 2\n2 = r 1\n3 = r 0\n"
		pairs   = "type X * 2\n0 = (1, 0)\n1 = (2, 1)\n2 = (2, 0)\n"
		lists   = "type X ^ 3\n0 = [0, 1, 2]\n1 = [2, 1, 1]\n2 = [2, 2, 2]\n"
		numbers = "type 3\n0 = 2\n1 = 0\n2 = 1\n3 = 2\n"
	)
	for _, c := range []struct {
		system, formula string
		want            []int
	}{
		// the example of the chapter
		{coins, "step first is 1", []int{1, 2}},
		{coins, "step second share 2 / 3 at step first is 1", []int{0, 1, 2}},
		{coins, "step second share 1 / 2 at not step first is 1", nil},
		// top, not, and
		{coins, "top", []int{0, 1, 2}},
		{coins, "not top", nil},
		{coins, "not not top", []int{0, 1, 2}},
		{coins, "(step first is 1 and top)", []int{1, 2}},
		{coins, "(top and step first is 0)", []int{0}},
		{coins, "(step first is 1 and step first is 0)", nil},
		{coins, "step first not is 1", []int{0}},
		{coins, "step not first is 1", []int{0}},
		{coins, "step (first is 1 and not second top)", nil},
		{coins, "step (not first is 1 and second top)", []int{0}},
		{coins, "step top", []int{0, 1, 2}},
		{coins, "step first top", []int{0, 1, 2}},
		{coins, "step first (is 0 and is 1)", nil},
		// numbers
		{numbers, "step is 0", []int{1}},
		{numbers, "step is 1", []int{2}},
		{numbers, "step is 2", []int{0, 3}},
		{numbers, "step not is 2", []int{1, 2}},
		// pairs
		{pairs, "step second is 1", []int{1}},
		{pairs, "step first at step second is 1", []int{0}},
		{pairs, "step first at step first at step second is 0", []int{0, 1, 2}},
		// sums
		{choices, "step left top", []int{0, 1}},
		{choices, "step right top", []int{2, 3}},
		{choices, "step right is 1", []int{2}},
		{choices, "step right is 0", []int{3}},
		{choices, "step left at step left top", []int{0}},
		{choices, "step left not at step left top", []int{1}},
		{choices, "step not left at step left top", []int{1, 2, 3}},
		{choices, "step not right is 1", []int{0, 1, 3}},
		{choices, "step (left top and right top)", nil},
		// inputs
		{lists, "step input 0 at step input 0 at top", []int{0, 1, 2}},
		{lists, "step (input 0 at not step input 0 top and top)", nil},
		// sets
		{set, "step some top", []int{1, 2, 3}},
		{set, "step some at not step some top", []int{1, 2}},
		{set, "step some at step some top", []int{2, 3}},
		{set, "step not some at step some top", []int{0, 1}},
		{set, "step some not at step some top", []int{1, 2}},
		{set, "step some (at step some top and at not step some top)", nil},
		{set, "step (some at step some top and some at not step some top)", []int{2}},
		// multisets
		{bag, "step many 1 top", []int{1, 2, 3}},
		{bag, "step many 3 top", []int{1, 2, 3}},
		{bag, "step many 4 top", []int{3}},
		{bag, "step many 6 top", []int{3}},
		{bag, "step many 7 top", nil},
		{bag, "step many 1048576 top", nil},
		{bag, "step many 1 at step many 1 top", []int{2, 3}},
		{bag, "step many 2 at step many 1 top", []int{2, 3}},
		{bag, "step many 3 at step many 1 top", []int{3}},
		{bag, "step many 6 at step many 1 top", []int{3}},
		{bag, "step many 2 at not step many 1 top", []int{1}},
		{bag, "step not many 1 not top", []int{0, 1, 2, 3}},
		{bag, "step many 1 not top", nil},
	} {
		s := of(c.system)
		got, e := True(s, must(Parse(s.Functor, c.formula)))
		if e != api.OK || !slices.Equal(got, c.want) {
			t.Errorf("%q: %s: %v %d, not %v", c.system, c.formula, got, e, c.want)
		}
		for x := range s.Next {
			is, e := Holds(s, x, must(Parse(s.Functor, c.formula)))
			if is != slices.Contains(c.want, x) || e != api.OK {
				t.Errorf("%q: %s: of %d: %v %d", c.system, c.formula, x, is, e)
			}
		}
	}
}

// TestEachInput checks that each input is one of its own.
func TestEachInput(t *testing.T) {
	for n := 1; n <= 4; n++ {
		next := make([]string, 1<<n)
		for x := range next {
			var l []string
			for i := range n {
				l = append(l, fmt.Sprint(x>>i&1))
			}
			next[x] = fmt.Sprintf("%d = [%s]\n", x, strings.Join(l, ", "))
		}
		s := of(fmt.Sprintf("type 2 ^ %d\n%s", n, strings.Join(next, "")))
		for i := range n {
			for x, is := range next {
				a := must(Parse(s.Functor, fmt.Sprintf("step input %d is 1", i)))
				if got := must(Holds(s, x, a)); got != (x>>i&1 == 1) {
					t.Errorf("input %d of %s: %v", i, is, got)
				}
			}
		}
	}
}

// TestShares compares shares with all fractions with small numbers, and with those next to a probability that has large ones.
func TestShares(t *testing.T) {
	holds := func(w, rest, n, m int) bool {
		s := of(fmt.Sprintf("type D(2)\n0 = {0 : %d, 1 : %d}\n", rest, w))
		return must(Holds(s, 0, step(at2(api.LShare, n, m, at1(api.LIs, 1)))))
	}
	for w := 1; w <= 5; w++ {
		for rest := 1; rest <= 5; rest++ {
			for m := 1; m <= 12; m++ {
				for n := 1; n <= m; n++ {
					if is := holds(w, rest, n, m); is != (w*m >= n*(w+rest)) {
						t.Errorf("%d of %d is at least %d / %d: %v", w, w+rest, n, m, is)
					}
				}
			}
		}
	}
	const most = api.MaxWeight
	for _, c := range []struct {
		w, rest, n, m int
		want          bool
	}{
		{most - 1, 1, most - 1, most, true},
		{most - 1, 1, most, most, false},
		{most - 1, 1, 1, 1, false},
		{most - 1, 1, most - 2, most - 1, true},
		{1, most - 1, 1, most, true},
		{1, most - 1, 1, most - 1, false},
		{1, most - 2, 1, most, true},
		{1, most - 2, 1, most - 1, true},
		{1, most - 2, 1, most - 2, false},
		{most/2 - 1, most / 2, 1, 2, false},
		{most/2 - 1, most / 2, most/2 - 1, most - 1, true},
		{most/2 - 1, most / 2, most / 2, most - 1, false},
		{most / 3, most - most/3, 1, 3, false},
		{most/3 + 1, most - most/3 - 1, 1, 3, true},
		{most - 1, 1, most / 2, most, true},
		{most - 2, 1, most - 1, most, false},
		{most - 2, 1, most - 2, most - 1, true},
		{1, 48, 1, 49, true},
	} {
		if is := holds(c.w, c.rest, c.n, c.m); is != c.want {
			t.Errorf("%d of %d is at least %d / %d: %v", c.w, c.w+c.rest, c.n, c.m, is)
		}
	}
}

// TestSumsOfWeights checks that the weights of elements are added, also if there are many or they are large.
func TestSumsOfWeights(t *testing.T) {
	var text strings.Builder
	text.WriteString("type B(X) + 2\n0 = l {")
	for x := range 99 {
		fmt.Fprintf(&text, "%d : %d, ", x+1, 10000+x)
	}
	text.WriteString("0 : 1}\n")
	for x := range 99 {
		fmt.Fprintf(&text, "%d = r %d\n", x+1, x%2)
	}
	s := of(text.String())
	odd := 0
	for x := range 99 {
		odd += (10000 + x) * (x % 2)
	}
	for n, want := range map[int]bool{1: true, odd - 1: true, odd: true, odd + 1: false, api.MaxWeight: false} {
		a := must(Parse(s.Functor, fmt.Sprintf("step left many %d at step right is 1", n)))
		if is := must(Holds(s, 0, a)); is != want {
			t.Errorf("%d of %d: %v", n, odd, is)
		}
	}
	for w, want := range map[int]bool{api.MaxWeight: true, api.MaxWeight - 1: false} {
		s := of(fmt.Sprintf("type B(X)\n0 = {0 : %d}\n", w))
		if is := must(Holds(s, 0, must(Parse(s.Functor, "step many 1048576 top")))); is != want {
			t.Errorf("weight %d: %v", w, is)
		}
	}
}

// TestTruthByDefinition compares True and Holds with the table of the chapter.
func TestTruthByDefinition(t *testing.T) {
	some, many := 0, 0
	samples(150, 5, 12, func(_ *sample.Dice, s api.System, a api.Formula) {
		var want []int
		for x := range s.Next {
			is := isTrueOf(s, x, a)
			many++
			if is {
				some++
				want = append(want, x)
			}
			if got, e := Holds(s, x, a); got != is || e != api.OK {
				t.Fatalf("%s: %s of %d: %v %d", written(s), words(a), x, got, e)
			}
		}
		if got, e := True(s, a); !slices.Equal(got, want) || e != api.OK {
			t.Fatalf("%s: %s: %v %d, not %v", written(s), words(a), got, e, want)
		}
	})
	if some < many/4 || some > many*3/4 {
		t.Errorf("formulas are true of %d of %d states", some, many)
	}
}

func TestSystemsWithoutStates(t *testing.T) {
	for _, f := range oneKind {
		s := api.System{Functor: typed(f)}
		if l, e := True(s, top); len(l) != 0 || e != api.OK {
			t.Errorf("%s: %v %d", f, l, e)
		}
		for _, x := range []int{-1, 0, 1} {
			if is, e := Holds(s, x, top); is || e != api.ErrArg {
				t.Errorf("%s: %d: %v %d", f, x, is, e)
			}
		}
	}
}

func TestStatesThatAreNone(t *testing.T) {
	s := of(coins)
	for _, x := range []int{-1, 3, 4, 100, math.MinInt, math.MaxInt, 1 << 32} {
		for _, a := range []api.Formula{top, nots(1, top), step(top)} {
			if is, e := Holds(s, x, a); is || e != api.ErrArg {
				t.Errorf("%d: %v %d", x, is, e)
			}
		}
	}
}

func TestWhichErrorOfTruth(t *testing.T) {
	no := node(api.LStep)
	for _, s := range []api.System{
		{Functor: api.Functor{Kind: -1}},
		{Functor: api.Functor{Kind: api.FDist + 1, Args: []api.Functor{{}}}, Next: []api.Value{{}}},
		{Functor: typed("X"), Next: []api.Value{{N: 1}}},
		{Functor: typed("X"), Next: make([]api.Value, 101)},
		{Functor: typed("D(X)"), Next: []api.Value{{}}},
	} {
		for _, a := range []api.Formula{top, no} {
			if l, e := True(s, a); len(l) != 0 || e != api.ErrSystem {
				t.Errorf("%v: %v %d", s, l, e)
			}
			for _, x := range []int{0, -1} {
				if is, e := Holds(s, x, a); is || e != api.ErrSystem {
					t.Errorf("%v: %v %d", s, is, e)
				}
			}
		}
	}
	s := of(coins)
	for _, a := range []api.Formula{no, node(api.LFirst, at1(api.LIs, 1)), step(at1(api.LIs, 1)), step(node(api.LFirst, at1(api.LIs, 2))), node(api.LVar), nots(100, top), tops(2001), at1(api.LTop, 1)} {
		if l, e := True(s, a); len(l) != 0 || e != api.ErrFormula {
			t.Errorf("%.100q: %v %d", words(a), l, e)
		}
		for _, x := range []int{0, -1, 3} {
			if is, e := Holds(s, x, a); is || e != api.ErrFormula {
				t.Errorf("%.100q: %v %d", words(a), is, e)
			}
		}
	}
}

// TestManyPaths has formulas with many steps in a system with 100 successors of each state.
func TestManyPaths(t *testing.T) {
	all := make([]string, 100)
	for x := range all {
		all[x] = fmt.Sprint(x)
	}
	set := "{" + strings.Join(all, ", ") + "}"
	text := "type P(X) + 1\n"
	for x := range 100 {
		text += fmt.Sprintf("%d = l %s\n", x, set)
	}
	s := of(text)
	deep, wide := top, top
	for range 16 {
		deep = step(node(api.LLeft, nots(1, node(api.LSome, nots(1, node(api.LState, deep))))))
	}
	for range 19 {
		wide = node(api.LAnd, wide, step(node(api.LLeft, nots(1, node(api.LSome, nots(1, node(api.LState, tops(95))))))))
	}
	for _, a := range []api.Formula{deep, wide, tops(1999), nots(98, top)} {
		if l := must(True(s, a)); len(l) != 100 {
			t.Errorf("%.100q: %v", words(a), l)
		}
	}
}
