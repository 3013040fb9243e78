package apart

import (
	"slices"

	"ectype/api"
	"ectype/fold"
)

// ofCollections returns formulas that tell two different sets, multisets or distributions apart.
func (t *teller) ofCollections(f api.Functor, u, v api.Value) sides {
	elements := slices.Concat(u.Args, v.Args)
	slices.SortFunc(elements, fold.Compare)
	elements = slices.CompactFunc(elements, func(a, b api.Value) bool { return fold.Compare(a, b) == 0 })
	tell := t.remembered(f.Args[0], elements)
	return smallest(sides{}, sides{t.more(f, u, v, elements, tell), t.more(f, v, u, elements, tell)})
}

// remembered returns a function with formulas that tell two of the elements apart, which looks for them at most once.
func (t *teller) remembered(f api.Functor, elements []api.Value) func(i, j int) sides {
	known := make([]*sides, len(elements)*len(elements))
	return func(i, j int) sides {
		at := i*len(elements) + j
		if known[at] == nil {
			l := t.ofValues(f, elements[i], elements[j])
			known[at], known[j*len(elements)+i] = &l, &sides{l.second, l.first}
		}
		return *known[at]
	}
}

// more returns a formula that is true of u and not of v, as it says how much there is in u of what some element of u is.
// It returns nil if v has at least as much of each element as u, or if the formula is too large.
func (t *teller) more(f api.Functor, u, v api.Value, elements []api.Value, tell func(i, j int) sides) *formula {
	gains := gainsOf(f.Kind, u, v, elements)
	var best *formula
	for i, g := range gains {
		if g > 0 {
			best = smaller(best, t.asMuchAs(f, u, t.narrowed(i, gains, elements, tell)))
		}
	}
	return best
}

// gainsOf returns for each element how much more of it is in u than in v, distributions with a common denominator.
// If the sum of some gains is greater than 0, there is more in u than in v of what a formula is true of that is true of just these elements.
// In a set one element is as good as many: an element of v outweighs all those that are only in u.
func gainsOf(kind int, u, v api.Value, elements []api.Value) []int64 {
	gains := make([]int64, len(elements))
	add := func(w api.Value, factor int64) {
		for i, a := range w.Args {
			at, _ := slices.BinarySearchFunc(elements, a, fold.Compare)
			if kind == api.FPow {
				gains[at] += factor
			} else {
				gains[at] += factor * int64(w.Weights[i])
			}
		}
	}
	switch kind {
	case api.FPow:
		add(u, 1)
		add(v, -int64(len(u.Args)+1))
	case api.FBag:
		add(u, 1)
		add(v, -1)
	case api.FDist:
		add(u, sum(v.Weights))
		add(v, -sum(u.Weights))
	}
	return gains
}

// sum returns the sum of some weights.
func sum(weights []int) int64 {
	var all int64
	for _, w := range weights {
		all += int64(w)
	}
	return all
}

// narrowed returns a formula that is true of the element at i, whose gain is greater than 0, and of such other ones that the sum of their gains is, too.
func (t *teller) narrowed(i int, gains []int64, elements []api.Value, tell func(i, j int) sides) *formula {
	var parts []*formula
	for {
		kept, gain := t.kept(parts, gains, elements)
		if gain > 0 {
			break
		}
		var best *formula
		for _, j := range kept {
			if gains[j] < 0 {
				best = smaller(best, tell(i, j).first)
			}
		}
		if best == nil {
			return nil
		}
		parts = append(parts, best)
	}
	// The largest parts are the last ones. Often they make others superfluous.
	for n := len(parts) - 2; n >= 0; n-- {
		rest := without(parts, n)
		if _, gain := t.kept(rest, gains, elements); gain > 0 {
			parts = rest
		}
	}
	return all(parts)
}

// kept returns the elements of which all parts are true, and the sum of their gains.
func (t *teller) kept(parts []*formula, gains []int64, elements []api.Value) (kept []int, gain int64) {
	t.spend(len(elements))
	for j, a := range elements {
		if !slices.ContainsFunc(parts, func(b *formula) bool { return !b.isTrue(a) }) {
			kept = append(kept, j)
			gain += gains[j]
		}
	}
	return kept, gain
}

// asMuchAs returns the formula that says that there is as much as in u of what a is true of.
func (t *teller) asMuchAs(f api.Functor, u api.Value, a *formula) *formula {
	if a == nil {
		return nil
	}
	some := 0
	for i, w := range u.Weights {
		if a.isTrue(u.Args[i]) {
			some += w
		}
	}
	switch f.Kind {
	case api.FPow:
		return t.made(api.Formula{Op: api.LSome}, a)
	case api.FBag:
		return t.made(api.Formula{Op: api.LMany, N: some}, a)
	}
	every := int(sum(u.Weights))
	d := fold.Divisor([]int{some, every})
	return t.made(api.Formula{Op: api.LShare, N: some / d, M: every / d}, a)
}
