package fold

import (
	"fmt"
	"reflect"
	"strings"
	"testing"

	"ectype/api"
)

// leaf returns a state, and node a value of other parts; weights may be left out.
func leaf(x int) api.Value { return api.Value{N: x} }
func node(n int, weights []int, args ...api.Value) api.Value {
	return api.Value{N: n, Args: args, Weights: weights}
}

func kind(k int, args ...api.Functor) api.Functor { return api.Functor{Kind: k, Args: args} }

var x = api.Functor{Kind: api.FId}

// text writes each node as its kind, its number and its Args, and a state by leaf alone.
func text(f api.Functor, v api.Value) string {
	return Of(f, v, func(v api.Value) string { return fmt.Sprint("x", v.N) }, func(f api.Functor, v api.Value, args []string) string {
		return fmt.Sprint(f.Kind, ".", v.N, "[", strings.Join(args, " "), "]")
	})
}

func TestOf(t *testing.T) {
	two := api.Functor{Kind: api.FConst, N: 2}
	for _, c := range []struct {
		f    api.Functor
		v    api.Value
		want string
	}{
		{x, leaf(7), "x7"},
		{two, leaf(1), "1.1[]"},
		{kind(api.FProd, x, two), node(0, nil, leaf(3), leaf(1)), "2.0[x3 1.1[]]"},
		{kind(api.FSum, x, two), node(0, nil, leaf(1)), "3.0[x1]"},
		{kind(api.FSum, x, two), node(1, nil, leaf(1)), "3.1[1.1[]]"},
		{kind(api.FExp, x), node(0, nil, leaf(1), leaf(0)), "4.0[x1 x0]"},
		{kind(api.FPow, kind(api.FBag, x)), node(0, nil, node(0, nil), node(0, []int{1}, leaf(4))), "5.0[6.0[] 6.0[x4]]"},
	} {
		if got := text(c.f, c.v); got != c.want {
			t.Errorf("%v of %v: %s, not %s", c.v, c.f, got, c.want)
		}
	}
}

func TestReplaced(t *testing.T) {
	// 0 and 1 become a list of nothing, others a list of themselves: what stands in the place of a state may be anything.
	others := func(v api.Value) api.Value {
		if v.N < 2 {
			return node(0, nil)
		}
		return node(0, nil, v)
	}
	none, list := node(0, nil), node(0, nil, leaf(2))
	set, bag, dist := kind(api.FPow, x), kind(api.FBag, x), kind(api.FDist, x)
	for _, c := range []struct {
		f       api.Functor
		v, want api.Value
	}{
		{x, leaf(2), list},
		{set, node(0, nil, leaf(0), leaf(1), leaf(2)), node(0, nil, none, list)},
		{bag, node(0, []int{3, 4, 5}, leaf(0), leaf(2), leaf(1)), node(0, []int{8, 4}, none, list)},
		{dist, node(0, []int{3, 4, 5}, leaf(0), leaf(2), leaf(1)), node(0, []int{2, 1}, none, list)},
		{kind(api.FPow, set), node(0, nil, node(0, nil, leaf(1)), node(0, nil), node(0, nil, leaf(0))), node(0, nil, node(0, nil), node(0, nil, none))},
	} {
		if got := Replaced(c.f, c.v, others); Compare(got, c.want) != 0 {
			t.Errorf("%v: %v, not %v", c.v, got, c.want)
		}
	}
}

func TestMapped(t *testing.T) {
	f := kind(api.FProd, kind(api.FPow, x), kind(api.FDist, x))
	v := node(0, nil, node(0, nil, leaf(0), leaf(1), leaf(2)), node(0, []int{1, 2, 1}, leaf(0), leaf(1), leaf(2)))
	want := node(0, nil, node(0, nil, leaf(150), leaf(200)), node(0, []int{1, 1}, leaf(150), leaf(200)))
	got := Mapped(f, v, func(x int) int { return 200 - x%2*50 })
	if !reflect.DeepEqual(got, want) {
		t.Errorf("%v, not %v", got, want)
	}
}

func TestDivisor(t *testing.T) {
	for _, c := range []struct {
		weights []int
		want    int
	}{{nil, 0}, {[]int{7}, 7}, {[]int{4, 6}, 2}, {[]int{6, 4}, 2}, {[]int{12, 18, 27}, 3}, {[]int{5, 7}, 1}, {[]int{1 << 20, 3 << 18}, 1 << 18}} {
		if got := Divisor(c.weights); got != c.want {
			t.Errorf("%v: %d, not %d", c.weights, got, c.want)
		}
	}
}

func TestCompare(t *testing.T) {
	increasing := []api.Value{
		leaf(0), node(0, []int{1}), node(0, nil, leaf(0)), node(0, []int{1}, leaf(0)), node(0, []int{2}, leaf(0)), node(0, nil, leaf(0), leaf(0)), node(0, nil, leaf(1)), leaf(1), node(1, nil, leaf(0)),
	}
	for i, u := range increasing {
		for j, v := range increasing {
			want := 0
			if i < j {
				want = -1
			} else if i > j {
				want = 1
			}
			if got := Compare(u, v); got != want {
				t.Errorf("%v and %v: %d, not %d", u, v, got, want)
			}
		}
	}
}
