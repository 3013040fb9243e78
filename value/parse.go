package value

import (
	"ectype/api"
	"ectype/notation"
	"ectype/scan"
)

// Parse returns the value whose string is s, in normal form.
func Parse(f api.Functor, n int, s string) (api.Value, api.Errno) {
	if e := checkStates(f, n); e != api.OK {
		return api.Value{}, e
	}
	if len(s) > api.MaxText {
		return api.Value{}, api.ErrLarge
	}
	// Numbers and lists of any lengths are read: Normal says which ones are valid.
	v, ok := scan.All(s, func(r *scan.Reader) api.Value {
		return notation.Read(r, f, func() api.Value { return api.Value{N: r.Number()} })
	})
	if !ok {
		return api.Value{}, api.ErrText
	}
	return Normal(f, n, v)
}
