package fix

import (
	"ectype/api"
	"ectype/logic"
)

// Every returns the formula that is true of the states all of whose successors a is true of.
func Every(f api.Functor, a api.Formula) (api.Formula, api.Errno) {
	if e := logic.Check(f, a); e != api.OK {
		return api.Formula{}, e
	}
	return formula(f, every(f, a))
}

// Always returns the equation of the states from which a is true of all states that can be reached.
func Always(f api.Functor, a api.Formula) ([]api.Equation, api.Errno) {
	if e := logic.Check(f, a); e != api.OK {
		return nil, e
	}
	body := and(a, every(f, variable(0)))
	return equations(f, []api.Equation{{Greatest: true, Body: body}})
}

// Possible returns the equation of the states from which a is true of some state that can be reached.
func Possible(f api.Functor, a api.Formula) ([]api.Equation, api.Errno) {
	if e := logic.Check(f, a); e != api.OK {
		return nil, e
	}
	body := not(and(not(a), every(f, not(variable(0)))))
	return equations(f, []api.Equation{{Greatest: false, Body: body}})
}

// every returns Every of f and a. Equal parts of it may be in the same memory.
func every(f api.Functor, a api.Formula) api.Formula {
	return node(api.LStep, everywhere(f, a))
}

// everywhere returns the formula for values of f that is true of those all of whose states a is true of.
func everywhere(f api.Functor, a api.Formula) api.Formula {
	var parts []api.Formula
	for _, g := range f.Args {
		parts = append(parts, everywhere(g, a))
	}
	switch f.Kind {
	case api.FId:
		return node(api.LState, a)
	case api.FConst:
		return top()
	case api.FProd:
		return and(node(api.LFirst, parts[0]), node(api.LSecond, parts[1]))
	case api.FSum:
		return not(and(not(node(api.LLeft, parts[0])), not(node(api.LRight, parts[1]))))
	case api.FExp:
		return atAll(f.N, parts[0])
	case api.FPow:
		return not(node(api.LSome, not(parts[0])))
	case api.FBag:
		return not(numbered(api.LMany, 1, 0, not(parts[0])))
	}
	return numbered(api.LShare, 1, 1, parts[0])
}

// atAll returns the formula that says that a is true at each of n inputs.
func atAll(n int, a api.Formula) api.Formula {
	all := numbered(api.LAt, 0, 0, a)
	for i := 1; i < n; i++ {
		all = and(all, numbered(api.LAt, i, 0, a))
	}
	return all
}
