package term

import (
	"ectype/api"
	"ectype/functor"
	"ectype/recur"
	"ectype/scan"
)

// String returns the string of t.
func String(f api.Functor, t api.Term) (string, api.Errno) {
	if e := Check(f, t); e != api.OK {
		return "", e
	}
	return recur.Text(f, t), api.OK
}

// Parse returns the term whose string is s.
func Parse(f api.Functor, s string) (api.Term, api.Errno) {
	if functor.Check(f) != api.OK {
		return api.Term{}, api.ErrFunctor
	}
	if len(s) > api.MaxText {
		return api.Term{}, api.ErrLarge
	}
	t, ok := scan.All(s, func(r *scan.Reader) api.Term { return recur.Read(r, f) })
	if !ok {
		return api.Term{}, api.ErrText
	}
	if Check(f, t) != api.OK {
		return api.Term{}, api.ErrTerm
	}
	return t, api.OK
}
