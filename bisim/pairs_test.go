package bisim

import (
	"math"
	"slices"
	"testing"

	"ectype/api"
)

func TestCompose(t *testing.T) {
	const least, greatest = math.MinInt, math.MaxInt
	for _, c := range []struct{ r, q, want [][2]int }{
		{nil, nil, nil},
		{pairs(0, 1), nil, nil},
		{nil, pairs(0, 1), nil},
		{pairs(0, 1), pairs(0, 1), nil},
		{pairs(0, 1), pairs(1, 0), pairs(0, 0)},
		{pairs(5, 1, 0, 1), pairs(1, -2), pairs(0, -2, 5, -2)},
		{pairs(0, 1, 0, 2), pairs(1, 3, 2, 3), pairs(0, 3)},
		{pairs(0, 1, 0, 1), pairs(1, 3, 1, 3), pairs(0, 3)},
		{pairs(0, 1), pairs(1, 9, 1, -9, 1, 0, 1, 100), pairs(0, -9, 0, 0, 0, 9, 0, 100)},
		{pairs(3, 1, -3, 1, 0, 2), pairs(2, 5, 1, 6, 1, 4), pairs(-3, 4, -3, 6, 0, 5, 3, 4, 3, 6)},
		{pairs(greatest, least, least, greatest), pairs(least, greatest, greatest, least), pairs(least, least, greatest, greatest)},
		{pairs(least, 0, greatest, 0, 0, 0), pairs(0, least, 0, greatest), pairs(least, least, least, greatest, 0, least, 0, greatest, greatest, least, greatest, greatest)},
	} {
		if got := Compose(c.r, c.q); !slices.Equal(got, c.want) {
			t.Errorf("%v and %v: %v, not %v", c.r, c.q, got, c.want)
		}
	}
}

func TestComposeByDefinition(t *testing.T) {
	d := dice{6}
	for range 500 {
		var lists [2][][2]int
		for i := range lists {
			for range d.Below(12) {
				lists[i] = append(lists[i], [2]int{d.Below(7) - 3, d.Below(7) - 3})
			}
		}
		var want [][2]int
		for x := -3; x <= 3; x++ {
			for z := -3; z <= 3; z++ {
				if slices.ContainsFunc(lists[0], func(p [2]int) bool { return p[0] == x && slices.Contains(lists[1], [2]int{p[1], z}) }) {
					want = append(want, [2]int{x, z})
				}
			}
		}
		if got := Compose(lists[0], lists[1]); !slices.Equal(got, want) {
			t.Fatalf("%v and %v: %v, not %v", lists[0], lists[1], got, want)
		}
	}
}

// TestComposeOfManyPairs has lists whose pairs would be too many if each one was combined with each equal one.
func TestComposeOfManyPairs(t *testing.T) {
	same := slices.Repeat(pairs(4, 4), 1<<18)
	if got := Compose(same, same); !slices.Equal(got, pairs(4, 4)) {
		t.Errorf("%d pairs", len(got))
	}
	all := allPairs(100, 100)
	if got := Compose(all, all); !slices.Equal(got, all) {
		t.Errorf("%d pairs", len(got))
	}
}

func TestClosure(t *testing.T) {
	for _, c := range []struct {
		n       int
		r       [][2]int
		classes []int
	}{
		{0, nil, nil},
		{1, nil, []int{0}},
		{3, nil, []int{0, 1, 2}},
		{3, pairs(0, 0, 1, 1), []int{0, 1, 2}},
		{3, pairs(0, 2), []int{0, 1, 0}},
		{3, pairs(2, 0), []int{0, 1, 0}},
		{3, pairs(1, 2), []int{0, 1, 1}},
		{3, pairs(2, 1), []int{0, 1, 1}},
		{4, pairs(0, 3, 1, 2), []int{0, 1, 1, 0}},
		{4, pairs(1, 3, 2, 3), []int{0, 1, 1, 1}},
		{5, pairs(0, 1, 2, 3, 4, 2), []int{0, 0, 1, 1, 1}},
		{6, pairs(0, 5, 1, 2, 3, 4, 4, 1, 5, 0), []int{0, 1, 1, 1, 1, 0}},
		{6, pairs(2, 5, 4, 3, 5, 4), []int{0, 1, 2, 2, 2, 2}},
	} {
		s := states("X", slices.Repeat([]string{"0"}, c.n)...)
		if got, e := Closure(s, c.r); e != api.OK || !slices.Equal(got, c.classes) {
			t.Errorf("%d states by %v: %v, error %d, not %v", c.n, c.r, got, e, c.classes)
		}
	}
	var next [][2]int
	for x := range 99 {
		next = append(next, [2]int{x + 1, x})
	}
	if got := must(Closure(chain(100, 1), next)); !slices.Equal(got, make([]int, 100)) {
		t.Errorf("chain: %v", got)
	}
}

// TestClosureByDefinition compares the classes with what is reached by the pairs in both directions, in any number of steps.
func TestClosureByDefinition(t *testing.T) {
	d := dice{7}
	for range 300 {
		n := 1 + d.Below(9)
		r := slices.DeleteFunc(d.relation(n, n, 4), func([2]int) bool { return d.Below(n) > 0 })
		reached := make([][]bool, n)
		for x := range reached {
			reached[x] = make([]bool, n)
			reached[x][x] = true
		}
		for range n {
			for x := range n {
				for _, p := range r {
					both := reached[x][p[0]] || reached[x][p[1]]
					reached[x][p[0]], reached[x][p[1]] = both, both
				}
			}
		}
		var want []int
		classes := 0
		for x := range n {
			y := slices.Index(reached[x], true)
			if y < x {
				want = append(want, want[y])
				continue
			}
			want = append(want, classes)
			classes++
		}
		if got := must(Closure(d.System("2 * P(X)", n), r)); !slices.Equal(got, want) {
			t.Fatalf("%d states by %v: %v, not %v", n, r, got, want)
		}
	}
}

func TestArgumentsOfClosure(t *testing.T) {
	s := of(coins)
	for _, r := range [][][2]int{
		pairs(0, 3), pairs(3, 0), pairs(-1, 0), pairs(0, -1), pairs(math.MinInt, math.MaxInt), pairs(1, 1, 0, 0), pairs(0, 1, 0, 0), pairs(0, 1, 0, 1),
	} {
		if l, e := Closure(s, r); e != api.ErrArg || len(l) > 0 {
			t.Errorf("%v: %v, error %d", r, l, e)
		}
	}
	if l, e := Closure(api.System{}, pairs(0, 0)); e != api.ErrArg || len(l) > 0 {
		t.Errorf("no states: %v, error %d", l, e)
	}
}
