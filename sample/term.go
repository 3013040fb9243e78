package sample

import (
	"slices"

	"ectype/api"
	"ectype/fold"
)

// Term returns some valid term of f with at most so many recursions, at least one, but few enough for MaxTerm nodes.
// Elements of collections are in any order, and often equal.
func (d *Dice) Term(f api.Functor, recursions int) api.Term {
	return d.recursion(f, 1, 0, &recursions)
}

// EquationTerms returns so many equation terms of f, each with at most so many recursions, at least one.
func (d *Dice) EquationTerms(f api.Functor, many, recursions int) []api.Term {
	var l []api.Term
	for range many {
		left := 1 + d.Below(recursions)
		l = append(l, d.recursion(f, 1, many, &left))
	}
	return l
}

// recursion returns some recursion, with others out of those that are left. There are so many around its parts, and so many equations.
func (d *Dice) recursion(f api.Functor, around, equations int, left *int) api.Term {
	*left--
	leaf := func(api.Value) api.Part {
		t := api.Term{Var: d.Below(around + equations)}
		if *left > 0 && around < api.MaxDepth && d.Below(3) > 0 {
			t = d.recursion(f, around+1, equations, left)
		}
		return api.Part{Terms: []api.Term{t}}
	}
	part := fold.Of(f, d.raw(f, 1), leaf, func(_ api.Functor, v api.Value, args []api.Part) api.Part {
		return api.Part{N: v.N, Args: args, Weights: v.Weights}
	})
	return api.Term{Body: []api.Part{part}}
}

// ChangedTerm returns t with a change of one of its nodes, which often makes it no valid term.
func (d *Dice) ChangedTerm(t api.Term) api.Term {
	if len(t.Body) > 0 && d.Below(5) > 0 {
		return api.Term{Body: changedAt(t.Body, 0, d.changedPart)}
	}
	switch d.Below(4) {
	case 0:
		t.Var += d.Below(5) - 2
	case 1:
		t.Body = nil
	case 2:
		t.Body = append(slices.Clone(t.Body), api.Part{})
	case 3:
		t = api.Term{Body: []api.Part{{Terms: []api.Term{t}}}}
	}
	return t
}

// changedPart returns p with a change of one of its nodes.
func (d *Dice) changedPart(p api.Part) api.Part {
	if n := len(p.Args); n > 0 && d.Below(4) > 0 {
		p.Args = changedAt(p.Args, d.Below(n), d.changedPart)
		return p
	}
	if len(p.Terms) > 0 && d.Below(4) > 0 {
		p.Terms = changedAt(p.Terms, 0, d.ChangedTerm)
		return p
	}
	switch d.Below(6) {
	case 0:
		p.N += d.Below(3) - 1
	case 1:
		p.Args = append(slices.Clone(p.Args), api.Part{})
	case 2:
		p.Args = p.Args[:max(0, len(p.Args)-1)]
	case 3:
		p.Weights = append(slices.Clone(p.Weights), d.Below(3))
	case 4:
		if n := len(p.Weights); n > 0 {
			p.Weights = changedAt(p.Weights, d.Below(n), func(w int) int { return w + d.Below(4) - 2 })
		}
	case 5:
		p.Terms = append(slices.Clone(p.Terms), api.Term{})
	}
	return p
}

// changedAt returns the list with a change of the element at i.
func changedAt[E any](l []E, i int, change func(E) E) []E {
	l = slices.Clone(l)
	l[i] = change(l[i])
	return l
}
