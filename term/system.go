package term

import (
	"ectype/api"
	"ectype/recur"
)

// System returns the system of t.
func System(f api.Functor, t api.Term) (api.System, api.Errno) {
	if e := Check(f, t); e != api.OK {
		return api.System{}, e
	}
	s, ok := recur.System(f, []api.Term{t}, nil)
	if !ok {
		return api.System{}, api.ErrLarge
	}
	return s, api.OK
}
