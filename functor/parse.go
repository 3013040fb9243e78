package functor

import (
	"ectype/api"
	"ectype/scan"
)

// parser reads a functor, and panics where the text is no string of one.
// Its tables have, for the token of an operator, a closure that reads what follows the token.
type parser struct {
	*scan.Reader
	prefix map[byte]func() api.Functor
	power  map[byte]func(left api.Functor) api.Functor
	binary map[byte]func(left api.Functor) api.Functor
}

// Parse returns the functor whose string is s.
func Parse(s string) (api.Functor, api.Errno) {
	if len(s) > api.MaxText {
		return api.Functor{}, api.ErrLarge
	}
	f, ok := scan.All(s, func(r *scan.Reader) api.Functor { return newParser(r).expression() })
	if !ok {
		return api.Functor{}, api.ErrText
	}
	if Check(f) != api.OK {
		return api.Functor{}, api.ErrFunctor
	}
	return f, api.OK
}

// newParser returns a parser, with its tables.
func newParser(r *scan.Reader) *parser {
	p := &parser{Reader: r}
	elements := func(kind int) func() api.Functor {
		return func() api.Functor {
			p.Take('(')
			return api.Functor{Kind: kind, Args: []api.Functor{p.inBrackets()}}
		}
	}
	pair := func(kind int) func(api.Functor) api.Functor {
		return func(left api.Functor) api.Functor {
			return api.Functor{Kind: kind, Args: []api.Functor{left, p.operand()}}
		}
	}
	p.prefix = map[byte]func() api.Functor{
		'X': func() api.Functor { return api.Functor{Kind: api.FId} },
		'P': elements(api.FPow),
		'B': elements(api.FBag),
		'D': elements(api.FDist),
		'(': p.inBrackets,
	}
	p.power = map[byte]func(api.Functor) api.Functor{
		'^': func(left api.Functor) api.Functor {
			return api.Functor{Kind: api.FExp, N: p.Padded(), Args: []api.Functor{left}}
		},
	}
	p.binary = map[byte]func(api.Functor) api.Functor{
		'*': pair(api.FProd),
		'+': pair(api.FSum),
	}
	return p
}

// expression reads an operand, or two with a binary operator between them.
func (p *parser) expression() api.Functor {
	left := p.operand()
	return p.follow(p.binary, left)
}

// operand reads what may stand on either side of a binary operator.
func (p *parser) operand() api.Functor {
	left := p.first()
	return p.follow(p.power, left)
}

// first reads a functor that begins with its own token or with a bracket.
func (p *parser) first() api.Functor {
	token := p.Peek()
	read, ok := p.prefix[token]
	if !ok {
		return api.Functor{Kind: api.FConst, N: p.Padded()}
	}
	p.Take(token)
	return read()
}

// follow reads an operator of the table, if one comes next, whose left operand is given.
func (p *parser) follow(table map[byte]func(api.Functor) api.Functor, left api.Functor) api.Functor {
	token := p.Peek()
	read, ok := table[token]
	if !ok {
		return left
	}
	p.Take(token)
	return read(left)
}

// inBrackets reads what follows an opening bracket, and the closing one.
func (p *parser) inBrackets() api.Functor {
	f := p.expression()
	p.Take(')')
	return f
}
