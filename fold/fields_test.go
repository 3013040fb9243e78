package fold

import (
	"math"
	"slices"
	"testing"

	"ectype/api"
)

func TestHasFields(t *testing.T) {
	two := api.Functor{Kind: api.FConst, N: 2}
	inputs := api.Functor{Kind: api.FExp, N: 3, Args: []api.Functor{x}}
	for name, c := range map[string]struct {
		f         api.Functor
		n, args   int
		weights   []int
		has, none bool // over 5 states, and over none
	}{
		"a state":                  {x, 4, 0, nil, true, false},
		"an empty list of weights": {x, 0, 0, []int{}, true, false},
		"no state":                 {x, 5, 0, nil, false, false},
		"a negative state":         {x, -1, 0, nil, false, false},
		"a state with an element":  {x, 0, 1, nil, false, false},
		"a state with a weight":    {x, 0, 0, []int{1}, false, false},
		"a number":                 {two, 1, 0, nil, true, true},
		"a large number":           {two, 2, 0, nil, false, false},
		"a number with an element": {two, 0, 1, nil, false, false},
		"a pair":                   {kind(api.FProd, x, two), 0, 2, nil, true, true},
		"a pair with a number":     {kind(api.FProd, x, two), 1, 2, nil, false, false},
		"half a pair":              {kind(api.FProd, x, two), 0, 1, nil, false, false},
		"a left part":              {kind(api.FSum, x, two), 0, 1, nil, true, true},
		"a right part":             {kind(api.FSum, x, two), 1, 1, nil, true, true},
		"a third part":             {kind(api.FSum, x, two), 2, 1, nil, false, false},
		"two parts":                {kind(api.FSum, x, two), 0, 2, nil, false, false},
		"inputs":                   {inputs, 0, 3, nil, true, true},
		"too few inputs":           {inputs, 0, 2, nil, false, false},
		"inputs with weights":      {inputs, 0, 3, []int{1, 1, 1}, false, false},
		"the empty set":            {kind(api.FPow, x), 0, 0, nil, true, true},
		"a large set":              {kind(api.FPow, x), 0, 1 << 40, nil, true, true},
		"a set with a number":      {kind(api.FPow, x), 1, 2, nil, false, false},
		"a set with weights":       {kind(api.FPow, x), 0, 1, []int{1}, false, false},
		"the empty multiset":       {kind(api.FBag, x), 0, 0, nil, true, true},
		"a multiset":               {kind(api.FBag, x), 0, 2, []int{4, 2}, true, true},
		"too few weights":          {kind(api.FBag, x), 0, 2, []int{4}, false, false},
		"too many weights":         {kind(api.FBag, x), 0, 1, []int{4, 1}, false, false},
		"a weight of 0":            {kind(api.FBag, x), 0, 2, []int{4, 0}, false, false},
		"a negative weight":        {kind(api.FBag, x), 0, 2, []int{4, -1}, false, false},
		"the largest sum":          {kind(api.FBag, x), 0, 2, []int{1, api.MaxWeight - 1}, true, true},
		"a larger sum":             {kind(api.FBag, x), 0, 2, []int{1, api.MaxWeight}, false, false},
		"a sum that wraps around":  {kind(api.FBag, x), 0, 3, []int{math.MaxInt, math.MaxInt, 3}, false, false},
		"an empty distribution":    {kind(api.FDist, x), 0, 0, nil, false, false},
		"a distribution":           {kind(api.FDist, x), 0, 2, []int{4, 2}, true, true},
	} {
		if got := HasFields(c.f, 5, c.n, c.args, c.weights); got != c.has {
			t.Errorf("%s over 5 states: %v", name, got)
		}
		if got := HasFields(c.f, 0, c.n, c.args, c.weights); got != c.none {
			t.Errorf("%s over no states: %v", name, got)
		}
	}
}

func TestCopy(t *testing.T) {
	f := kind(api.FProd, api.Functor{Kind: api.FConst, N: 7}, kind(api.FPow, x))
	equal := func(f, g api.Functor) bool { return f.Kind == g.Kind && f.N == g.N && len(f.Args) == len(g.Args) }
	g := Copy(f)
	if !equal(f, g) || !slices.EqualFunc(f.Args, g.Args, equal) || !equal(f.Args[1].Args[0], g.Args[1].Args[0]) {
		t.Errorf("%v is no copy of %v", g, f)
	}
	if &f.Args[0] == &g.Args[0] || &f.Args[1].Args[0] == &g.Args[1].Args[0] {
		t.Error("the copy shares memory")
	}
}
