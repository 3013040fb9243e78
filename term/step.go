package term

import (
	"ectype/api"
	"ectype/recur"
)

// Step returns the part of t in which each variable that refers to t is replaced by t.
func Step(f api.Functor, t api.Term) (api.Part, api.Errno) {
	if e := Check(f, t); e != api.OK {
		return api.Part{}, e
	}
	p, ok := recur.Copied(func(c *recur.Copier) api.Part {
		whole, _ := c.Copies(func(k, _ int) api.Term { return c.Variable(k) })
		_, part := c.Copies(func(k, around int) api.Term {
			if k == around {
				return whole(t, around)
			}
			return c.Variable(k)
		})
		return part(t.Body[0], 0)
	})
	if !ok {
		return api.Part{}, api.ErrLarge
	}
	return p, api.OK
}
