package lift

import (
	"fmt"
	"slices"
	"testing"

	"ectype/api"
	"ectype/functor"
	"ectype/sample"
	"ectype/system"
	"ectype/value"
)

// What package sample has, by shorter names.
func must[R any](r R, e api.Errno) R { return sample.Must(r, e) }

func TestRelated(t *testing.T) {
	for _, c := range []struct {
		f, u, v string
		r       [][2]int
		wants   bool
	}{
		{"X", "0", "1", [][2]int{{0, 1}}, true},
		{"X", "0", "1", [][2]int{{1, 0}}, false},
		{"3", "2", "2", nil, true},
		{"3", "2", "1", [][2]int{{2, 1}}, false},
		{"X * 2", "(0, 1)", "(1, 1)", [][2]int{{0, 1}}, true},
		{"X * 2", "(0, 1)", "(1, 0)", [][2]int{{0, 1}}, false},
		{"X + X", "l 0", "l 1", [][2]int{{0, 1}}, true},
		{"X + X", "l 0", "r 1", [][2]int{{0, 1}}, false},
		{"X ^ 2", "[0, 1]", "[1, 0]", [][2]int{{0, 1}, {1, 0}}, true},
		{"X ^ 2", "[0, 1]", "[1, 0]", [][2]int{{0, 1}}, false},
		{"P(X)", "{}", "{}", nil, true},
		{"P(X)", "{0, 1}", "{2}", [][2]int{{0, 2}, {1, 2}}, true},
		{"P(X)", "{0, 1}", "{2}", [][2]int{{0, 2}}, false},
		{"P(X)", "{2}", "{0, 1}", [][2]int{{2, 0}}, false},
		{"B(X)", "{0 : 2}", "{0 : 1, 1 : 1}", [][2]int{{0, 0}, {0, 1}}, true},
		{"B(X)", "{0 : 2}", "{0 : 2, 1 : 1}", [][2]int{{0, 0}, {0, 1}}, false},
		{"B(X)", "{0 : 1, 1 : 1}", "{0 : 1, 1 : 1}", [][2]int{{0, 0}, {0, 1}, {1, 0}}, true},
		{"D(X)", "{0 : 1}", "{0 : 1, 1 : 2}", [][2]int{{0, 0}, {0, 1}}, true},
		{"D(X)", "{0 : 1, 1 : 1}", "{0 : 1, 1 : 2}", [][2]int{{0, 0}, {0, 1}, {1, 1}}, true},
		{"D(X)", "{0 : 1, 1 : 1}", "{0 : 1, 1 : 2}", [][2]int{{0, 0}, {1, 1}}, false},
	} {
		f := must(functor.Parse(c.f))
		u, v := must(value.Parse(f, 3, c.u)), must(value.Parse(f, 3, c.v))
		if got := Related(f, u, v, func(x, y int) bool { return slices.Contains(c.r, [2]int{x, y}) }); got != c.wants {
			t.Errorf("%s: %s and %s by %v: %v", c.f, c.u, c.v, c.r, got)
		}
	}
}

// TestAcceptedPairsAreEnough checks that values that are related are related by the pairs that were accepted alone.
func TestAcceptedPairsAreEnough(t *testing.T) {
	d := sample.Dice(1)
	count := 0
	for _, text := range []string{"X ^ 3", "P(X)", "P(P(X))", "B(X)", "D(X)", "P(D(X))", "D(B(X))", "P(X) * D(X)", "X + P(X)"} {
		f := must(functor.Parse(text))
		for range 300 {
			u, v := d.Value(f, 4), d.Value(f, 4)
			var accepted [][2]int
			isPair := func(x, y int) bool { return (x+y)%3 > 0 }
			is := Related(f, u, v, func(x, y int) bool {
				if isPair(x, y) {
					accepted = append(accepted, [2]int{x, y})
				}
				return isPair(x, y)
			})
			if !is {
				continue
			}
			count++
			if !Related(f, u, v, func(x, y int) bool { return slices.Contains(accepted, [2]int{x, y}) }) {
				t.Fatalf("%s: %v and %v are not related by %v", text, u, v, accepted)
			}
		}
	}
	if count < 500 {
		t.Errorf("%d values are related", count)
	}
}

func TestRelation(t *testing.T) {
	s := must(system.Parse("type P(X)\n0 = {1, 2}\n1 = {1}\n2 = {2}\n"))
	r := NewRelation(s, s, [][2]int{{0, 0}, {1, 1}, {1, 2}, {2, 1}, {2, 2}})
	check := func(what string, got, want any) {
		t.Helper()
		if fmt.Sprint(got) != fmt.Sprint(want) {
			t.Errorf("%s: %v, not %v", what, got, want)
		}
	}
	for i := range 5 {
		check("has", r.Has(i), true)
		check("users before", r.Users(i), []int{})
	}
	for i := range 5 {
		check("holds", r.Holds(i), true)
	}
	// Each of the other pairs relies on itself only.
	for i := 1; i < 5; i++ {
		check("relies on itself", slices.DeleteFunc(r.Users(i), func(j int) bool { return j == 0 }), []int{i})
	}
	r.Remove(1)
	check("removed", r.Has(1), false)
	check("without another pair", r.Holds(0), true)
	check("not used any more", slices.Contains(r.Users(1), 0), false)
	r.Remove(2)
	users := r.Users(3)
	check("without all pairs of 1", r.Holds(0), false)
	check("relies on the same pairs as before", r.Users(3), users)
	check("relies on the only pair of 2 and 1", slices.Contains(users, 0), true)
	check("users that are removed", slices.Contains(r.Users(2), 2), false)
	r.Restore(1)
	check("restored", r.Has(1), true)
	check("with a pair again", r.Holds(0), true)
	check("used again", r.Users(1), []int{0, 1})
}
