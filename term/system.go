package term

import (
	"ectype/api"
	"ectype/fold"
	"ectype/value"
)

// System returns the system of t.
func System(f api.Functor, t api.Term) (api.System, api.Errno) {
	if e := Check(f, t); e != api.OK {
		return api.System{}, e
	}
	next := nextValues(t)
	if len(next) > api.MaxStates {
		return api.System{}, api.ErrLarge
	}
	s := api.System{Functor: fold.Copy(f)}
	for _, v := range next {
		w, e := value.Normal(f, len(next), v)
		if e != api.OK {
			return api.System{}, api.ErrLarge
		}
		s.Next = append(s.Next, w)
	}
	return s, api.OK
}

// nextValues returns the next values of the recursions in t, in preorder. They need not be in normal form.
func nextValues(t api.Term) []api.Value {
	var next []api.Value
	var around []int // the states of the recursions around the present term, the innermost one last
	var state func(t api.Term) int
	state = func(t api.Term) int {
		if isVariable(t) {
			return around[len(around)-1-t.Var]
		}
		x := len(next)
		next = append(next, api.Value{})
		around = append(around, x)
		v := valueOf(t.Body[0], state)
		around = around[:len(around)-1]
		next[x] = v
		return x
	}
	state(t)
	return next
}

// valueOf returns p as a value, in which the state for each term is what the function returns. Its weights are those of p, in the same memory.
func valueOf(p api.Part, state func(t api.Term) int) api.Value {
	if len(p.Terms) > 0 {
		return api.Value{N: state(p.Terms[0])}
	}
	v := api.Value{N: p.N, Weights: p.Weights}
	for _, a := range p.Args {
		v.Args = append(v.Args, valueOf(a, state))
	}
	return v
}

// partOf returns v, a value of f, as a part, in which the term for each state is what the function returns. Its weights are those of v, in the same memory.
func partOf(f api.Functor, v api.Value, term func(x int) api.Term) api.Part {
	leaf := func(u api.Value) api.Part { return api.Part{Terms: []api.Term{term(u.N)}} }
	return fold.Of(f, v, leaf, func(_ api.Functor, v api.Value, args []api.Part) api.Part {
		return api.Part{N: v.N, Args: args, Weights: v.Weights}
	})
}
