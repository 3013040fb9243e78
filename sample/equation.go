package sample

import "ectype/api"

// Equations returns so many equations for f, with Bodies of at most this depth, which is at least 2.
func (d *Dice) Equations(f api.Functor, many, depth int) []api.Equation {
	var l []api.Equation
	for range many {
		body := d.varied(d.Formula(f, depth-1), many, true, false)
		l = append(l, api.Equation{Greatest: d.Below(2) == 0, Body: body})
	}
	return l
}

// varied returns a with some of so many variables in the place of most of its leaves about states, and of some of its other parts about states.
// It says whether a is about states, and whether it is below an odd number of LNot.
func (d *Dice) varied(a api.Formula, many int, ofStates, negative bool) api.Formula {
	if ofStates && d.Below(6) == 0 || ofStates && a.Op == api.LTop && d.Below(4) > 0 {
		v := api.Formula{Op: api.LVar, N: d.Below(many)}
		if negative {
			return api.Formula{Op: api.LNot, Args: []api.Formula{v}}
		}
		return v
	}
	isJoined := a.Op == api.LNot || a.Op == api.LAnd
	for i, b := range a.Args {
		a.Args[i] = d.varied(b, many, a.Op == api.LState || ofStates && isJoined, negative != (a.Op == api.LNot))
	}
	return a
}
