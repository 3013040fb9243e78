package fix

import "ectype/api"

// remembered is how many results of a level are kept, so that its rounds need not start from the beginning.
// As many as that are the rounds of two levels of the same kind, one in the other, while the values around them do not change:
// their values change at most once at each state, and the inner one has one more round for each value of the outer one.
const remembered = 2*api.MaxStates + 1

// marks are variables that are marked.
type marks [api.MaxEquations]bool

// add marks the variables in a.
func (m *marks) add(a api.Formula) {
	if a.Op == api.LVar {
		m[a.N] = true
	}
	for _, b := range a.Args {
		m.add(b)
	}
}

// level is an equation together with those after it, whose values are determined by the values of the variables before it.
type level struct {
	number   int
	uses     marks // the variables in its equations
	present  *values
	body     meaning
	inner    func() // determines the values of the equations after this one
	greatest bool
	first    set      // where the rounds start if nothing is known
	settled  []values // what was determined before, the latest one last
}

// settle determines the values of the equations, for the present values of the variables before them.
func (v *level) settle() {
	value := &v.present[v.number]
	*value = v.start()
	for {
		v.inner()
		next := v.body()
		if next == *value {
			break
		}
		*value = next
	}
	v.settled = append(v.settled, *v.present)
	if len(v.settled) > remembered {
		v.settled = v.settled[1:]
	}
}

// start returns a set from which the rounds lead to the value of the equation.
// Its greatest value is within those that were determined by values around it that have all elements of the present ones,
// and its least value has all elements of those that were determined by values within the present ones.
func (v *level) start() set {
	s := v.first
	for i := range v.settled {
		old := &v.settled[i]
		switch {
		case v.greatest && v.areWithin(v.present, old):
			s = s.and(old[v.number])
		case !v.greatest && v.areWithin(old, v.present):
			s = s.or(old[v.number])
		}
	}
	return s
}

// areWithin reports whether some values of the variables before this level are within others, as far as the level uses them.
func (v *level) areWithin(some, others *values) bool {
	for k := range v.number {
		if v.uses[k] && !some[k].isWithin(others[k]) {
			return false
		}
	}
	return true
}
