package functor

import (
	"strconv"

	"ectype/api"
)

// String returns the string of f.
func String(f api.Functor) (string, api.Errno) {
	if Check(f) != api.OK {
		return "", api.ErrFunctor
	}
	return outer(f), api.OK
}

// outer returns the string of a valid functor at the top level, or directly within brackets.
func outer(f api.Functor) string {
	token := kinds[f.Kind].token
	switch f.Kind {
	case api.FId:
		return token
	case api.FConst:
		return strconv.Itoa(f.N)
	case api.FProd, api.FSum:
		return inner(f.Args[0]) + " " + token + " " + inner(f.Args[1])
	case api.FExp:
		return base(f.Args[0]) + " " + token + " " + strconv.Itoa(f.N)
	}
	return token + "(" + outer(f.Args[0]) + ")"
}

// inner returns the string of an operand: a product or a sum has its own brackets.
func inner(f api.Functor) string {
	if f.Kind == api.FProd || f.Kind == api.FSum {
		return "(" + outer(f) + ")"
	}
	return outer(f)
}

// base returns the string of the operand of a power.
func base(f api.Functor) string {
	if f.Kind == api.FExp {
		return "(" + outer(f) + ")"
	}
	return inner(f)
}
