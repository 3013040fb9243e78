// Package notation has the strings of values, in which anything may stand in the places of states.
package notation

import (
	"strconv"
	"strings"

	"ectype/api"
	"ectype/fold"
	"ectype/scan"
)

// Text returns the string of v, a value of f, with what leaf returns in the place of each state.
func Text(f api.Functor, v api.Value, leaf func(api.Value) string) string {
	return fold.Of(f, v, leaf, func(f api.Functor, v api.Value, args []string) string {
		for i, w := range v.Weights {
			args[i] += " : " + strconv.Itoa(w)
		}
		list := strings.Join(args, ", ")
		switch f.Kind {
		case api.FConst:
			return strconv.Itoa(v.N)
		case api.FProd:
			return "(" + list + ")"
		case api.FSum:
			return [2]string{"l ", "r "}[v.N] + list
		case api.FExp:
			return "[" + list + "]"
		}
		return "{" + list + "}"
	})
}

// Read reads a value of f, and what leaf reads in the place of each state. It panics where the text is no string of one.
// Numbers from 0 on and lists of any lengths are read: it is left to others which ones are valid.
func Read(r *scan.Reader, f api.Functor, leaf func() api.Value) (v api.Value) {
	switch f.Kind {
	case api.FId:
		return leaf()
	case api.FConst:
		v.N = r.Number()
	case api.FProd:
		r.Take('(')
		left := Read(r, f.Args[0], leaf)
		r.Take(',')
		right := Read(r, f.Args[1], leaf)
		r.Take(')')
		v.Args = []api.Value{left, right}
	case api.FSum:
		v.N = side(r)
		v.Args = []api.Value{Read(r, f.Args[v.N], leaf)}
	case api.FExp:
		list(r, '[', ']', func() { v.Args = append(v.Args, Read(r, f.Args[0], leaf)) })
	case api.FPow:
		list(r, '{', '}', func() { v.Args = append(v.Args, Read(r, f.Args[0], leaf)) })
	case api.FBag, api.FDist:
		list(r, '{', '}', func() {
			v.Args = append(v.Args, Read(r, f.Args[0], leaf))
			r.Take(':')
			v.Weights = append(v.Weights, r.Number())
		})
	}
	return v
}

// list reads elements between brackets, with commas between them.
func list(r *scan.Reader, first, last byte, element func()) {
	r.Take(first)
	if r.Peek() != last {
		element()
		for r.Peek() == ',' {
			r.Take(',')
			element()
		}
	}
	r.Take(last)
}

// side reads which part of a sum follows: 0 for the left one, 1 for the right one.
func side(r *scan.Reader) int {
	if r.Peek() == 'l' {
		r.Take('l')
		return 0
	}
	r.Take('r')
	return 1
}
