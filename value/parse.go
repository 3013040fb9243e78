package value

import (
	"strconv"

	"ectype/api"
)

// end stands for the end of the text: no token begins with a blank.
const end = ' '

// parser reads a text from the position at, and panics where it is no string of a value.
type parser struct {
	text string
	at   int
}

// Parse returns the value whose string is s, in normal form.
func Parse(f api.Functor, n int, s string) (api.Value, api.Errno) {
	if e := checkStates(f, n); e != api.OK {
		return api.Value{}, e
	}
	if len(s) > api.MaxText {
		return api.Value{}, api.ErrLarge
	}
	v, e := read(f, s)
	if e != api.OK {
		return api.Value{}, e
	}
	return Normal(f, n, v)
}

// read returns the tree whose string is s, by the tokens alone: numbers, and lists of any lengths.
func read(f api.Functor, s string) (v api.Value, e api.Errno) {
	defer func() {
		if recover() != nil {
			v, e = api.Value{}, api.ErrText
		}
	}()
	p := &parser{text: s}
	v = p.value(f)
	p.take(end)
	return v, api.OK
}

// value reads a value of f.
func (p *parser) value(f api.Functor) (v api.Value) {
	switch f.Kind {
	case api.FId, api.FConst:
		v.N = p.number()
	case api.FProd:
		p.take('(')
		left := p.value(f.Args[0])
		p.take(',')
		right := p.value(f.Args[1])
		p.take(')')
		v.Args = []api.Value{left, right}
	case api.FSum:
		v.N = p.side()
		v.Args = []api.Value{p.value(f.Args[v.N])}
	case api.FExp:
		p.list('[', ']', func() { v.Args = append(v.Args, p.value(f.Args[0])) })
	case api.FPow:
		p.list('{', '}', func() { v.Args = append(v.Args, p.value(f.Args[0])) })
	case api.FBag, api.FDist:
		p.list('{', '}', func() {
			v.Args = append(v.Args, p.value(f.Args[0]))
			p.take(':')
			v.Weights = append(v.Weights, p.number())
		})
	}
	return v
}

// list reads elements between brackets, with commas between them.
func (p *parser) list(first, last byte, element func()) {
	p.take(first)
	if p.peek() != last {
		element()
		for p.peek() == ',' {
			p.take(',')
			element()
		}
	}
	p.take(last)
}

// side reads which part of a sum follows: 0 for the left one, 1 for the right one.
func (p *parser) side() int {
	if p.peek() == 'l' {
		p.take('l')
		return 0
	}
	p.take('r')
	return 1
}

// number reads a number.
func (p *parser) number() int {
	if !isDigit(p.peek()) {
		panic(api.ErrText)
	}
	first := p.at
	for p.at < len(p.text) && isDigit(p.text[p.at]) {
		p.at++
	}
	digits := p.text[first:p.at]
	if digits[0] == '0' && len(digits) > 1 {
		panic(api.ErrText)
	}
	// Next to its error, Atoi returns the greatest int for a greater number, which is what such a number counts as.
	n, _ := strconv.Atoi(digits)
	return n
}

// take reads a token of one byte, or the end.
func (p *parser) take(token byte) {
	if p.peek() != token {
		panic(api.ErrText)
	}
	p.at++
}

// peek skips blanks and returns the byte that comes next, or end.
func (p *parser) peek() byte {
	for p.at < len(p.text) && p.text[p.at] == ' ' {
		p.at++
	}
	if p.at == len(p.text) {
		return end
	}
	return p.text[p.at]
}

func isDigit(b byte) bool {
	return '0' <= b && b <= '9'
}
