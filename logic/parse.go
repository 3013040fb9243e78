package logic

import (
	"ectype/api"
	"ectype/functor"
	"ectype/scan"
)

// parser reads a formula, and panics where the text is no string of one.
type parser struct {
	*scan.Reader
}

// Parse returns the formula for f whose string is s.
func Parse(f api.Functor, s string) (api.Formula, api.Errno) {
	if functor.Check(f) != api.OK {
		return api.Formula{}, api.ErrFunctor
	}
	if len(s) > api.MaxText {
		return api.Formula{}, api.ErrLarge
	}
	// Operators of any sorts and any numbers are read: fits says which ones are those of a formula for f.
	a, ok := scan.All(s, func(r *scan.Reader) api.Formula { return parser{r}.formula() })
	if !ok {
		return api.Formula{}, api.ErrText
	}
	if !fits(f, a) {
		return api.Formula{}, api.ErrFormula
	}
	return a, api.OK
}

// formula reads a formula of any sort.
func (p parser) formula() api.Formula {
	if p.Peek() == '(' {
		return p.both()
	}
	a := api.Formula{Op: p.operator()}
	if a.Op == api.LAnd {
		panic(api.ErrText) // its word stands between its Args
	}
	o := operators[a.Op]
	if o.numbers > 0 {
		a.N = p.Number()
	}
	if o.numbers > 1 {
		p.Take('/')
		a.M = p.Number()
	}
	for range o.args {
		a.Args = append(a.Args, p.formula())
	}
	return a
}

// both reads two formulas in brackets.
func (p parser) both() api.Formula {
	p.Take('(')
	left := p.formula()
	if p.operator() != api.LAnd {
		panic(api.ErrText)
	}
	right := p.formula()
	p.Take(')')
	return api.Formula{Op: api.LAnd, Args: []api.Formula{left, right}}
}

// operator reads the word of an operator.
func (p parser) operator() int {
	word := p.Word()
	for op, o := range operators {
		if o.word == word {
			return op
		}
	}
	panic(api.ErrText)
}
