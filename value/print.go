package value

import (
	"strconv"
	"strings"

	"ectype/api"
	"ectype/fold"
)

// String returns the string of v.
func String(f api.Functor, n int, v api.Value) (string, api.Errno) {
	if e := Check(f, n, v); e != api.OK {
		return "", e
	}
	var text strings.Builder
	var visit func(f api.Functor, v api.Value)
	visit = func(f api.Functor, v api.Value) {
		first, last := around(f, v)
		text.WriteString(first)
		for i, a := range v.Args {
			if i > 0 {
				text.WriteString(", ")
			}
			visit(fold.Part(f, v, i), a)
			if len(v.Weights) > 0 {
				text.WriteString(" : " + strconv.Itoa(v.Weights[i]))
			}
		}
		text.WriteString(last)
	}
	visit(f, v)
	return text.String(), api.OK
}

// around returns what stands before and after the Args in the string of v, a value of f.
func around(f api.Functor, v api.Value) (first, last string) {
	switch f.Kind {
	case api.FId, api.FConst:
		return strconv.Itoa(v.N), ""
	case api.FProd:
		return "(", ")"
	case api.FSum:
		return [2]string{"l ", "r "}[v.N], ""
	case api.FExp:
		return "[", "]"
	}
	return "{", "}"
}
