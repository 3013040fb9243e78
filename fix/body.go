package fix

import (
	"ectype/api"
	"ectype/truth"
	"ectype/value"
)

// values has the value of each variable.
type values [api.MaxEquations]set

// meaning returns the states of which a state formula is true with the present values of the variables.
type meaning func() set

// compiler compiles formulas with variables.
type compiler struct {
	next    []api.Value
	states  set
	users   []set // for each state, those in whose next values it is
	present *values
}

// newCompiler returns a compiler for the states of s and these values.
func newCompiler(s api.System, present *values) *compiler {
	c := &compiler{next: s.Next, users: make([]set, len(s.Next)), present: present}
	for x, v := range s.Next {
		c.states.put(x, true)
		l, _ := value.States(s.Functor, len(s.Next), v)
		for _, y := range l {
			c.users[y].put(x, true)
		}
	}
	return c
}

// bodies returns the meaning of the Body of each equation.
func (c *compiler) bodies(l []api.Equation) []meaning {
	var m []meaning
	for _, q := range l {
		m = append(m, c.ofStates(q.Body))
	}
	return m
}

// ofStates returns the meaning of a state formula.
func (c *compiler) ofStates(a api.Formula) meaning {
	switch a.Op {
	case api.LTop:
		return func() set { return c.states }
	case api.LNot:
		part := c.ofStates(a.Args[0])
		return func() set { return c.states.xor(part()) }
	case api.LAnd:
		left, right := c.ofStates(a.Args[0]), c.ofStates(a.Args[1])
		return func() set { return left().and(right()) }
	case api.LVar:
		return func() set { return c.present[a.N] }
	}
	return c.ofNext(a.Args[0])
}

// parts are the state formulas in a value formula, up to the next states, and what they were true of when they were last looked at.
type parts struct {
	meanings []meaning
	sets     []set
}

// look looks at all parts, and returns the states at which one of them has changed.
func (p *parts) look() set {
	var changed set
	for i, part := range p.meanings {
		now := part()
		changed = changed.or(now.xor(p.sets[i]))
		p.sets[i] = now
	}
	return changed
}

// ofNext returns the meaning of `step` a. When a part of a has changed at some states, only their users are looked at again.
func (c *compiler) ofNext(a api.Formula) meaning {
	var p parts
	isTrue := c.ofValues(a, &p)
	var result set
	look := func(states set) {
		for x := range states.all() {
			result.put(x, isTrue(c.next[x]))
		}
	}
	look(c.states)
	return func() set {
		var users set
		for y := range p.look().all() {
			users = users.or(c.users[y])
		}
		look(users)
		return result
	}
}

// ofValues returns the predicate of a value formula, of which p gets the parts.
func (c *compiler) ofValues(a api.Formula, p *parts) truth.Predicate {
	if a.Op == api.LState {
		part, i := c.ofStates(a.Args[0]), len(p.sets)
		p.meanings, p.sets = append(p.meanings, part), append(p.sets, set{})
		return func(v api.Value) bool { return p.sets[i].has(v.N) }
	}
	var below []truth.Predicate
	for _, b := range a.Args {
		below = append(below, c.ofValues(b, p))
	}
	return truth.Of(c.next, a, below)
}
