package value

import (
	"strconv"

	"ectype/api"
	"ectype/notation"
)

// String returns the string of v.
func String(f api.Functor, n int, v api.Value) (string, api.Errno) {
	if e := Check(f, n, v); e != api.OK {
		return "", e
	}
	return notation.Text(f, v, func(u api.Value) string { return strconv.Itoa(u.N) }), api.OK
}
