package fix

import "ectype/api"

// Dual returns the equations whose solution consists of the complements.
func Dual(f api.Functor, l []api.Equation) ([]api.Equation, api.Errno) {
	if e := Check(f, l); e != api.OK {
		return nil, e
	}
	var dual []api.Equation
	for _, q := range l {
		c := replaced(q.Body, func(n int) api.Formula { return not(variable(n)) })
		dual = append(dual, api.Equation{Greatest: !q.Greatest, Body: not(c)})
	}
	return equations(f, dual)
}

// Rounds returns for each equation a formula without variables: what its Body is in round k.
func Rounds(f api.Functor, l []api.Equation, k int) ([]api.Formula, api.Errno) {
	if e := Check(f, l); e != api.OK {
		return nil, e
	}
	if k < 0 || k > api.MaxRounds {
		return nil, api.ErrArg
	}
	round := firstRound(l)
	for range k {
		round = nextRound(l, round)
	}
	var written []api.Formula
	for _, a := range round {
		b, e := formula(f, a)
		if e != api.OK {
			return nil, e
		}
		written = append(written, b)
	}
	return written, api.OK
}

// firstRound returns the formulas of round 0.
func firstRound(l []api.Equation) []api.Formula {
	var round []api.Formula
	for _, q := range l {
		a := top()
		if !q.Greatest {
			a = not(a)
		}
		round = append(round, a)
	}
	return round
}

// nextRound returns the formulas of the round after one.
// Those of the last round are parts of them, in the same memory: written out, they might have far too many nodes, even if a later round has few.
func nextRound(l []api.Equation, last []api.Formula) []api.Formula {
	var round []api.Formula
	for _, q := range l {
		round = append(round, replaced(q.Body, func(n int) api.Formula { return last[n] }))
	}
	return round
}
