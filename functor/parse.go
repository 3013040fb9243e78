package functor

import (
	"ectype/api"
)

// tooLarge stands for all numbers that are greater than those of valid functors.
const tooLarge = max(api.MaxConst, api.MaxInputs) + 1

// end stands for the end of the text: no token begins with a blank.
const end = ' '

// parser reads a text from the position at, and panics where it is no string of a functor.
// Its tables have, for the token of an operator, a closure that reads what follows the token.
type parser struct {
	text   string
	at     int
	prefix map[byte]func() api.Functor
	power  map[byte]func(left api.Functor) api.Functor
	binary map[byte]func(left api.Functor) api.Functor
}

// Parse returns the functor whose string is s.
func Parse(s string) (f api.Functor, e api.Errno) {
	if len(s) > api.MaxText {
		return api.Functor{}, api.ErrLarge
	}
	defer func() {
		if recover() != nil {
			f, e = api.Functor{}, api.ErrText
		}
	}()
	p := newParser(s)
	f = p.expression()
	p.take(end)
	if Check(f) != api.OK {
		return api.Functor{}, api.ErrFunctor
	}
	return f, api.OK
}

// newParser returns a parser of the text, with its tables.
func newParser(text string) *parser {
	p := &parser{text: text}
	elements := func(kind int) func() api.Functor {
		return func() api.Functor {
			p.take('(')
			return api.Functor{Kind: kind, Args: []api.Functor{p.inBrackets()}}
		}
	}
	pair := func(kind int) func(api.Functor) api.Functor {
		return func(left api.Functor) api.Functor {
			return api.Functor{Kind: kind, Args: []api.Functor{left, p.operand()}}
		}
	}
	p.prefix = map[byte]func() api.Functor{
		'X': func() api.Functor { return api.Functor{Kind: api.FId} },
		'P': elements(api.FPow),
		'B': elements(api.FBag),
		'D': elements(api.FDist),
		'(': p.inBrackets,
	}
	p.power = map[byte]func(api.Functor) api.Functor{
		'^': func(left api.Functor) api.Functor {
			return api.Functor{Kind: api.FExp, N: p.number(), Args: []api.Functor{left}}
		},
	}
	p.binary = map[byte]func(api.Functor) api.Functor{
		'*': pair(api.FProd),
		'+': pair(api.FSum),
	}
	return p
}

// expression reads an operand, or two with a binary operator between them.
func (p *parser) expression() api.Functor {
	left := p.operand()
	return p.follow(p.binary, left)
}

// operand reads what may stand on either side of a binary operator.
func (p *parser) operand() api.Functor {
	left := p.first()
	return p.follow(p.power, left)
}

// first reads a functor that begins with its own token or with a bracket.
func (p *parser) first() api.Functor {
	read, ok := p.prefix[p.peek()]
	if !ok {
		return api.Functor{Kind: api.FConst, N: p.number()}
	}
	p.at++
	return read()
}

// follow reads an operator of the table, if one comes next, whose left operand is given.
func (p *parser) follow(table map[byte]func(api.Functor) api.Functor, left api.Functor) api.Functor {
	read, ok := table[p.peek()]
	if !ok {
		return left
	}
	p.at++
	return read(left)
}

// inBrackets reads what follows an opening bracket, and the closing one.
func (p *parser) inBrackets() api.Functor {
	f := p.expression()
	p.take(')')
	return f
}

// number reads a number. A large one counts as tooLarge, so that it cannot overflow.
func (p *parser) number() int {
	if !isDigit(p.peek()) {
		panic(api.ErrText)
	}
	n := 0
	for p.at < len(p.text) && isDigit(p.text[p.at]) {
		n = min(10*n+int(p.text[p.at]-'0'), tooLarge)
		p.at++
	}
	return n
}

// take reads a token of one byte, or the end.
func (p *parser) take(token byte) {
	if p.peek() != token {
		panic(api.ErrText)
	}
	p.at++
}

// peek skips blanks and returns the byte that comes next, or end.
func (p *parser) peek() byte {
	for p.at < len(p.text) && p.text[p.at] == ' ' {
		p.at++
	}
	if p.at == len(p.text) {
		return end
	}
	return p.text[p.at]
}

func isDigit(b byte) bool {
	return '0' <= b && b <= '9'
}
