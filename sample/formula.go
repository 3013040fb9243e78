package sample

import (
	"slices"

	"ectype/api"
)

// Formula returns some formula for f of at most this depth, which is at least 1. Its numbers are small.
func (d *Dice) Formula(f api.Functor, depth int) api.Formula {
	return d.formula(f, nil, depth)
}

// formula returns some formula about the values of part, or about states if part is nil.
func (d *Dice) formula(f api.Functor, part *api.Functor, depth int) api.Formula {
	isConst := part != nil && part.Kind == api.FConst
	if depth == 1 && !isConst || d.Below(16) == 0 {
		return api.Formula{Op: api.LTop}
	}
	choice := d.Below(6)
	if depth > 1 && choice < 2 {
		a := api.Formula{Op: [2]int{api.LNot, api.LAnd}[choice]}
		for range 1 + choice {
			a.Args = append(a.Args, d.formula(f, part, depth-1))
		}
		return a
	}
	if isConst {
		return api.Formula{Op: api.LIs, N: d.Below(part.N)}
	}
	a, below := d.node(f, part)
	a.Args = []api.Formula{d.formula(f, below, depth-1)}
	return a
}

// node returns the first node of some formula about what has parts, without its Args, and what these are about.
func (d *Dice) node(f api.Functor, part *api.Functor) (a api.Formula, below *api.Functor) {
	if part == nil {
		return api.Formula{Op: api.LStep}, &f
	}
	switch part.Kind {
	case api.FId:
		return api.Formula{Op: api.LState}, nil
	case api.FProd, api.FSum:
		i := d.Below(2)
		first := [2]int{api.LFirst, api.LLeft}[part.Kind-api.FProd]
		return api.Formula{Op: first + i}, &part.Args[i]
	case api.FExp:
		a = api.Formula{Op: api.LAt, N: d.Below(part.N)}
	case api.FPow:
		a = api.Formula{Op: api.LSome}
	case api.FBag:
		a = api.Formula{Op: api.LMany, N: 1 + d.Below(3)}
	case api.FDist:
		m := 1 + d.Below(6)
		a = api.Formula{Op: api.LShare, N: 1 + d.Below(m), M: m}
	}
	return a, &part.Args[0]
}

// Changed returns a with a change of one of its nodes, which often makes it no formula.
func (d *Dice) Changed(a api.Formula) api.Formula {
	if len(a.Args) > 0 && d.Below(3) > 0 {
		a.Args = slices.Clone(a.Args)
		i := d.Below(len(a.Args))
		a.Args[i] = d.Changed(a.Args[i])
		return a
	}
	switch d.Below(6) {
	case 0:
		a.Op = d.Below(api.LVar+3) - 1
	case 1:
		a.N += d.Below(3) - 1
	case 2:
		a.M += d.Below(3) - 1
	case 3:
		a.Args = append(slices.Clone(a.Args), api.Formula{})
	case 4:
		a = api.Formula{Op: 1 + d.Below(api.LVar), Args: []api.Formula{a}}
	case 5:
		if len(a.Args) > 0 {
			a = a.Args[0]
		}
	}
	return a
}

// Nots returns a formula below so many LNot.
func Nots(many int, a api.Formula) api.Formula {
	for range many {
		a = api.Formula{Op: api.LNot, Args: []api.Formula{a}}
	}
	return a
}

// Ands returns a flat formula with so many nodes, an odd number, if its leaves are single nodes: all of them are this one.
func Ands(nodes int, leaf api.Formula) api.Formula {
	if nodes == 1 {
		return leaf
	}
	left := (nodes - 1) / 2
	left -= 1 - left%2
	return api.Formula{Op: api.LAnd, Args: []api.Formula{Ands(left, leaf), Ands(nodes-1-left, leaf)}}
}

// Lists calls do with the list of the Args of each node that has some.
func Lists(a api.Formula, do func(l []api.Formula)) {
	if len(a.Args) > 0 {
		do(a.Args)
	}
	for _, b := range a.Args {
		Lists(b, do)
	}
}
