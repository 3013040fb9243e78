package unfold

import (
	"ectype/api"
	"ectype/notation"
)

// String returns the string of v.
func String(f api.Functor, depth int, v api.Value) (string, api.Errno) {
	if e := Check(f, depth, v); e != api.OK {
		return "", e
	}
	return text(f, v, depth), api.OK
}

func text(f api.Functor, v api.Value, depth int) string {
	if depth == 0 {
		return "."
	}
	return notation.Text(f, v, func(u api.Value) string { return text(f, u.Args[0], depth-1) })
}
