package sample

import "ectype/api"

// Formula returns some formula for f of at most this depth, which is at least 1. Its numbers are small.
func (d *Dice) Formula(f api.Functor, depth int) api.Formula {
	return d.formula(f, nil, depth)
}

// formula returns some formula about the values of part, or about states if part is nil.
func (d *Dice) formula(f api.Functor, part *api.Functor, depth int) api.Formula {
	isConst := part != nil && part.Kind == api.FConst
	if depth == 1 && !isConst || d.Below(16) == 0 {
		return api.Formula{Op: api.LTop}
	}
	choice := d.Below(6)
	if depth > 1 && choice < 2 {
		a := api.Formula{Op: [2]int{api.LNot, api.LAnd}[choice]}
		for range 1 + choice {
			a.Args = append(a.Args, d.formula(f, part, depth-1))
		}
		return a
	}
	if isConst {
		return api.Formula{Op: api.LIs, N: d.Below(part.N)}
	}
	a, below := d.node(f, part)
	a.Args = []api.Formula{d.formula(f, below, depth-1)}
	return a
}

// node returns the first node of some formula about what has parts, without its Args, and what these are about.
func (d *Dice) node(f api.Functor, part *api.Functor) (a api.Formula, below *api.Functor) {
	if part == nil {
		return api.Formula{Op: api.LStep}, &f
	}
	switch part.Kind {
	case api.FId:
		return api.Formula{Op: api.LState}, nil
	case api.FProd, api.FSum:
		i := d.Below(2)
		first := [2]int{api.LFirst, api.LLeft}[part.Kind-api.FProd]
		return api.Formula{Op: first + i}, &part.Args[i]
	case api.FExp:
		a = api.Formula{Op: api.LAt, N: d.Below(part.N)}
	case api.FPow:
		a = api.Formula{Op: api.LSome}
	case api.FBag:
		a = api.Formula{Op: api.LMany, N: 1 + d.Below(3)}
	case api.FDist:
		m := 1 + d.Below(6)
		a = api.Formula{Op: api.LShare, N: 1 + d.Below(m), M: m}
	}
	return a, &part.Args[0]
}
