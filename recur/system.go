package recur

import (
	"ectype/api"
	"ectype/fold"
	"ectype/value"
)

// System returns the system of f whose states are the recursions of all terms of the list, those of the first one first, each in preorder.
// The state for a variable that refers to the thing k outside is outside[k].
// It reports whether there are at most MaxStates states, and at most MaxArgs different elements in each collection.
func System(f api.Functor, l []api.Term, outside []int) (api.System, bool) {
	next := nextValues(l, outside)
	if len(next) > api.MaxStates {
		return api.System{}, false
	}
	s := api.System{Functor: fold.Copy(f)}
	for _, v := range next {
		w, e := value.Normal(f, len(next), v)
		if e != api.OK {
			return api.System{}, false
		}
		s.Next = append(s.Next, w)
	}
	return s, true
}

// nextValues returns the next values of the states. They need not be in normal form.
func nextValues(l []api.Term, outside []int) []api.Value {
	var next []api.Value
	var around []int // the states of the recursions around the present term, the innermost one last
	var state func(t api.Term) int
	state = func(t api.Term) int {
		if IsVariable(t) {
			if k := t.Var - len(around); k >= 0 {
				return outside[k]
			}
			return around[len(around)-1-t.Var]
		}
		x := len(next)
		next = append(next, api.Value{})
		around = append(around, x)
		v := valueOf(t.Body[0], state)
		around = around[:len(around)-1]
		next[x] = v
		return x
	}
	for _, t := range l {
		state(t)
	}
	return next
}
