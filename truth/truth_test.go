package truth

import (
	"testing"

	"ectype/api"
)

// values returns so many numbers as values.
func values(numbers ...int) []api.Value {
	var l []api.Value
	for _, n := range numbers {
		l = append(l, api.Value{N: n})
	}
	return l
}

// isOdd is the predicate of the Args in these tests.
func isOdd(v api.Value) bool { return v.N%2 == 1 }

func TestOf(t *testing.T) {
	list := func(numbers ...int) api.Value { return api.Value{Args: values(numbers...)} }
	sum := func(n, x int) api.Value { return api.Value{N: n, Args: values(x)} }
	weighed := func(odd, even int) api.Value { return api.Value{Args: values(1, 2), Weights: []int{odd, even}} }
	for _, c := range []struct {
		a     api.Formula
		v     api.Value
		wants bool
	}{
		{api.Formula{Op: api.LTop}, api.Value{}, true},
		{api.Formula{Op: api.LNot}, values(2)[0], true},
		{api.Formula{Op: api.LNot}, values(3)[0], false},
		{api.Formula{Op: api.LAnd}, values(3)[0], true},
		{api.Formula{Op: api.LAnd}, values(1)[0], false},
		{api.Formula{Op: api.LAnd}, values(4)[0], false},
		{api.Formula{Op: api.LStep}, values(0)[0], true},
		{api.Formula{Op: api.LStep}, values(1)[0], false},
		{api.Formula{Op: api.LState}, values(3)[0], true},
		{api.Formula{Op: api.LState}, values(2)[0], false},
		{api.Formula{Op: api.LIs, N: 3}, values(3)[0], true},
		{api.Formula{Op: api.LIs, N: 3}, values(2)[0], false},
		{api.Formula{Op: api.LFirst}, list(1, 2), true},
		{api.Formula{Op: api.LFirst}, list(2, 1), false},
		{api.Formula{Op: api.LSecond}, list(2, 1), true},
		{api.Formula{Op: api.LSecond}, list(1, 2), false},
		{api.Formula{Op: api.LLeft}, sum(0, 1), true},
		{api.Formula{Op: api.LLeft}, sum(0, 2), false},
		{api.Formula{Op: api.LLeft}, sum(1, 1), false},
		{api.Formula{Op: api.LRight}, sum(1, 1), true},
		{api.Formula{Op: api.LRight}, sum(1, 2), false},
		{api.Formula{Op: api.LRight}, sum(0, 1), false},
		{api.Formula{Op: api.LAt, N: 2}, list(0, 0, 1), true},
		{api.Formula{Op: api.LAt, N: 2}, list(1, 1, 0), false},
		{api.Formula{Op: api.LSome}, list(0, 2, 3), true},
		{api.Formula{Op: api.LSome}, list(0, 2), false},
		{api.Formula{Op: api.LSome}, list(), false},
		{api.Formula{Op: api.LMany, N: 3}, weighed(3, 9), true},
		{api.Formula{Op: api.LMany, N: 3}, weighed(2, 9), false},
		{api.Formula{Op: api.LShare, N: 1, M: 3}, weighed(1, 2), true},
		{api.Formula{Op: api.LShare, N: 1, M: 3}, weighed(2, 5), false},
		{api.Formula{Op: api.LShare, N: 1, M: 1 << 20}, weighed(1, 1<<20-1), true},
		{api.Formula{Op: api.LShare, N: 2, M: 1 << 20}, weighed(1, 1<<20-1), false},
	} {
		isMore := func(v api.Value) bool { return v.N > 2 }
		if got := Of(values(5, 6), c.a, []Predicate{isOdd, isMore})(c.v); got != c.wants {
			t.Errorf("%v of %v: %v", c.a, c.v, got)
		}
	}
}

// TestEachStateIsAskedAboutOnce checks that the next value of a state is looked at only when it is needed, and not again.
func TestEachStateIsAskedAboutOnce(t *testing.T) {
	asked := map[int]int{}
	isTrue := Of(values(3, 4, 5), api.Formula{Op: api.LStep}, []Predicate{func(v api.Value) bool {
		asked[v.N]++
		return v.N == 4
	}})
	for range 3 {
		for x, wants := range []bool{false, true} {
			if isTrue(api.Value{N: x}) != wants {
				t.Errorf("of %d: not %v", x, wants)
			}
		}
	}
	if asked[3] != 1 || asked[4] != 1 || asked[5] != 0 {
		t.Error(asked)
	}
}
