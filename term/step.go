package term

import "ectype/api"

// Step returns the part of t in which each variable that refers to t is replaced by t.
func Step(f api.Functor, t api.Term) (api.Part, api.Errno) {
	if e := Check(f, t); e != api.OK {
		return api.Part{}, e
	}
	// At first, all copies of t are in the same memory: written out, they might have far too many nodes together.
	p := replaced(t.Body[0], func(k, inside int) api.Term {
		if k == inside {
			return t
		}
		return api.Term{Var: k}
	})
	if _, isPart := checks(f); !isPart(f, p, 0) {
		return api.Part{}, api.ErrLarge
	}
	return replaced(p, func(k, _ int) api.Term { return api.Term{Var: k} }), api.OK
}

// replaced returns p with other terms in the place of its variables. What is left of p is in new memory.
// The terms depend on the number of the variable, and on the number of recursions in p around it.
func replaced(p api.Part, by func(k, inside int) api.Term) api.Part {
	var ofTerm func(t api.Term, inside int) api.Term
	var ofPart func(p api.Part, inside int) api.Part
	ofTerm = func(t api.Term, inside int) api.Term {
		if isVariable(t) {
			return by(t.Var, inside)
		}
		return api.Term{Body: []api.Part{ofPart(t.Body[0], inside+1)}}
	}
	ofPart = func(p api.Part, inside int) api.Part {
		// A list without capacity has no room for what is appended: it gets memory of its own.
		q := api.Part{N: p.N, Weights: append(p.Weights[:0:0], p.Weights...)}
		for _, a := range p.Args {
			q.Args = append(q.Args, ofPart(a, inside))
		}
		for _, t := range p.Terms {
			q.Terms = append(q.Terms, ofTerm(t, inside))
		}
		return q
	}
	return ofPart(p, 0)
}
