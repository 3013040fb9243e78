package value

import (
	"ectype/api"
	"ectype/scan"
)

// parser reads a value, and panics where the text is no string of one.
type parser struct {
	*scan.Reader
}

// Parse returns the value whose string is s, in normal form.
func Parse(f api.Functor, n int, s string) (api.Value, api.Errno) {
	if e := checkStates(f, n); e != api.OK {
		return api.Value{}, e
	}
	if len(s) > api.MaxText {
		return api.Value{}, api.ErrLarge
	}
	// Numbers and lists of any lengths are read: Normal says which ones are valid.
	v, ok := scan.All(s, func(r *scan.Reader) api.Value { return parser{r}.value(f) })
	if !ok {
		return api.Value{}, api.ErrText
	}
	return Normal(f, n, v)
}

// value reads a value of f.
func (p parser) value(f api.Functor) (v api.Value) {
	switch f.Kind {
	case api.FId, api.FConst:
		v.N = p.Number()
	case api.FProd:
		p.Take('(')
		left := p.value(f.Args[0])
		p.Take(',')
		right := p.value(f.Args[1])
		p.Take(')')
		v.Args = []api.Value{left, right}
	case api.FSum:
		v.N = p.side()
		v.Args = []api.Value{p.value(f.Args[v.N])}
	case api.FExp:
		p.list('[', ']', func() { v.Args = append(v.Args, p.value(f.Args[0])) })
	case api.FPow:
		p.list('{', '}', func() { v.Args = append(v.Args, p.value(f.Args[0])) })
	case api.FBag, api.FDist:
		p.list('{', '}', func() {
			v.Args = append(v.Args, p.value(f.Args[0]))
			p.Take(':')
			v.Weights = append(v.Weights, p.Number())
		})
	}
	return v
}

// list reads elements between brackets, with commas between them.
func (p parser) list(first, last byte, element func()) {
	p.Take(first)
	if p.Peek() != last {
		element()
		for p.Peek() == ',' {
			p.Take(',')
			element()
		}
	}
	p.Take(last)
}

// side reads which part of a sum follows: 0 for the left one, 1 for the right one.
func (p parser) side() int {
	if p.Peek() == 'l' {
		p.Take('l')
		return 0
	}
	p.Take('r')
	return 1
}
