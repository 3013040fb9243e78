package fix

import (
	"ectype/api"
	"ectype/logic"
)

// top returns the formula that is true of everything.
func top() api.Formula {
	return node(api.LTop)
}

// not returns the negation of a.
func not(a api.Formula) api.Formula {
	return node(api.LNot, a)
}

// and returns the conjunction of a and b.
func and(a, b api.Formula) api.Formula {
	return node(api.LAnd, a, b)
}

// variable returns the variable with a number.
func variable(n int) api.Formula {
	return numbered(api.LVar, n, 0)
}

// node returns the formula of an operator that has no numbers.
func node(op int, args ...api.Formula) api.Formula {
	return numbered(op, 0, 0, args...)
}

// numbered returns the formula of an operator that has numbers.
func numbered(op, n, m int, args ...api.Formula) api.Formula {
	return api.Formula{Op: op, N: n, M: m, Args: args}
}

// replaced returns a with other formulas in the place of its variables. What is left of a is in new memory.
func replaced(a api.Formula, by func(n int) api.Formula) api.Formula {
	if a.Op == api.LVar {
		return by(a.N)
	}
	b := numbered(a.Op, a.N, a.M)
	for _, part := range a.Args {
		b.Args = append(b.Args, replaced(part, by))
	}
	return b
}

// formula returns a, which is a formula for f unless it is too large, in new memory.
func formula(f api.Functor, a api.Formula) (api.Formula, api.Errno) {
	if logic.Check(f, a) != api.OK {
		return api.Formula{}, api.ErrLarge
	}
	return replaced(a, variable), api.OK
}

// equations returns l, which are equations for f unless they are too large, in new memory.
func equations(f api.Functor, l []api.Equation) ([]api.Equation, api.Errno) {
	if !fit(f, l) {
		return nil, api.ErrLarge
	}
	var m []api.Equation
	for _, q := range l {
		m = append(m, api.Equation{Greatest: q.Greatest, Body: replaced(q.Body, variable)})
	}
	return m, api.OK
}
