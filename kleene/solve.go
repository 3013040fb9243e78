package kleene

import (
	"slices"

	"ectype/api"
	"ectype/recur"
	"ectype/system"
)

// Solve returns the solution of each equation.
func Solve(f api.Functor, l []api.Term) ([]api.Term, api.Errno) {
	if e := check(f, l); e != api.OK {
		return nil, e
	}
	solutions := make([]api.Term, len(l))
	for i := range l {
		t, ok := solution(l, i)
		if !ok {
			return nil, api.ErrLarge
		}
		solutions[i] = t
	}
	return solutions, api.OK
}

// Of returns a term that describes the behavior of the state x of s: the solution of equation x of the equations of s.
func Of(s api.System, x int) (api.Term, api.Errno) {
	if system.Check(s) != api.OK {
		return api.Term{}, api.ErrSystem
	}
	if x < 0 || x >= len(s.Next) {
		return api.Term{}, api.ErrArg
	}
	t, ok := solution(equations(s), x)
	if !ok {
		return api.Term{}, api.ErrLarge
	}
	return t, api.OK
}

// opened is an equation that is open: its number, and how many recursions are around the one that it has become.
type opened struct {
	equation, around int
}

// solution returns the solution of equation i, or false if it is too large or too deep.
func solution(l []api.Term, i int) (api.Term, bool) {
	return recur.Copied(func(c *recur.Copier) api.Term {
		var ofEquation func(i, around int, open []opened) api.Term
		ofEquation = func(i, around int, open []opened) api.Term {
			// Equations that are opened beside this one append to the same stack: without room in it, none overwrites another.
			open = append(open[:len(open):len(open)], opened{i, around})
			ofTerm, _ := c.Copies(func(k, inner int) api.Term {
				j := k - (inner - around)
				if j < 0 {
					return c.Variable(k)
				}
				if at := slices.IndexFunc(open, func(o opened) bool { return o.equation == j }); at >= 0 {
					return c.Variable(inner - 1 - open[at].around)
				}
				return ofEquation(j, inner, open)
			})
			return ofTerm(l[i], around)
		}
		return ofEquation(i, 0, nil)
	})
}
