package unfold

import (
	"strconv"
	"strings"

	"ectype/api"
	"ectype/fold"
)

// String returns the string of v.
func String(f api.Functor, depth int, v api.Value) (string, api.Errno) {
	if e := Check(f, depth, v); e != api.OK {
		return "", e
	}
	return text(f, v, depth), api.OK
}

func text(f api.Functor, v api.Value, depth int) string {
	if depth == 0 {
		return "."
	}
	return written(f, v, func(u api.Value) string { return text(f, u.Args[0], depth-1) })
}

// written returns the string of v, with what leaf returns in the place of each state.
func written(f api.Functor, v api.Value, leaf func(api.Value) string) string {
	return fold.Of(f, v, leaf, func(f api.Functor, v api.Value, args []string) string {
		for i, w := range v.Weights {
			args[i] += " : " + strconv.Itoa(w)
		}
		list := strings.Join(args, ", ")
		switch f.Kind {
		case api.FConst:
			return strconv.Itoa(v.N)
		case api.FProd:
			return "(" + list + ")"
		case api.FSum:
			return [2]string{"l ", "r "}[v.N] + list
		case api.FExp:
			return "[" + list + "]"
		}
		return "{" + list + "}"
	})
}
