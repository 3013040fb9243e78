package apart

import (
	"slices"

	"ectype/api"
	"ectype/fold"
	"ectype/rounds"
)

// budget is how many formulas and elements are looked at before the search for a formula ends.
const budget = 1 << 24

// teller finds formulas that tell states apart: those of some systems, the states of each system after those of the systems before it.
type teller struct {
	functor api.Functor
	next    []api.Value
	firsts  [][]int          // for each round, the first state of the class of each state
	known   map[[2]int]sides // what was found for two states, which stand for their classes
	budget  int
}

// newTeller returns a teller for some systems of the same functor, which tells states apart that are in different classes in the last round.
func newTeller(last int, systems ...api.System) *teller {
	t := &teller{functor: systems[0].Functor, known: map[[2]int]sides{}, budget: budget}
	for _, s := range systems {
		before := len(t.next)
		for _, v := range s.Next {
			t.next = append(t.next, fold.Mapped(s.Functor, v, func(x int) int { return before + x }))
		}
	}
	for k, classes := range rounds.Classes(systems...) {
		if k > last {
			break
		}
		firsts := make([]int, len(classes))
		for x, c := range classes {
			firsts[x] = slices.Index(classes, c)
		}
		t.firsts = append(t.firsts, firsts)
	}
	return t
}

// found returns the formula that find returns: ErrLarge if there is none, or none is found within the budget.
func found(find func() *formula) (tree api.Formula, e api.Errno) {
	defer func() {
		if recover() != nil {
			tree, e = api.Formula{}, api.ErrLarge
		}
	}()
	a := find()
	if a == nil {
		return api.Formula{}, api.ErrLarge
	}
	return a.tree(), api.OK
}

// spend takes some steps from the budget. The search gives up by a panic if they are more than are left.
func (t *teller) spend(steps int) {
	t.budget -= steps
	if t.budget < 0 {
		panic(api.ErrLarge)
	}
}

// made returns a formula from its first node and its Args.
func (t *teller) made(head api.Formula, args ...*formula) *formula {
	return made(t.next, head, args...)
}

// below returns both formulas as Args of the same first node.
func (t *teller) below(head api.Formula, l sides) sides {
	return sides{t.made(head, l.first), t.made(head, l.second)}
}

// ofStates returns formulas that tell two states apart that do not behave alike.
func (t *teller) ofStates(x, y int) sides {
	k := 1
	for t.firsts[k][x] == t.firsts[k][y] {
		k++
	}
	// A formula that tells them apart after k rounds is true of all states of the class of one, and of none of the class of the other one.
	x, y = t.firsts[k][x], t.firsts[k][y]
	if l, ok := t.known[[2]int{x, y}]; ok {
		return l
	}
	before := func(z int) int { return t.firsts[k-1][z] }
	u, v := fold.Mapped(t.functor, t.next[x], before), fold.Mapped(t.functor, t.next[y], before)
	l := t.below(api.Formula{Op: api.LStep}, t.ofValues(t.functor, u, v))
	t.known[[2]int{x, y}] = l
	t.known[[2]int{y, x}] = sides{l.second, l.first}
	return l
}

// ofValues returns formulas that tell two different values of f apart. Different states in them do not behave alike.
func (t *teller) ofValues(f api.Functor, u, v api.Value) sides {
	t.spend(1)
	switch f.Kind {
	case api.FId:
		return t.below(api.Formula{Op: api.LState}, t.ofStates(u.N, v.N))
	case api.FConst:
		return sides{t.made(api.Formula{Op: api.LIs, N: u.N}), t.made(api.Formula{Op: api.LIs, N: v.N})}
	case api.FPow, api.FBag, api.FDist:
		return t.ofCollections(f, u, v)
	}
	if u.N != v.N {
		top := all(nil)
		return sides{t.made(headOf(f, u, 0), top), t.made(headOf(f, v, 0), top)}
	}
	var best sides
	for i := range u.Args {
		if fold.Compare(u.Args[i], v.Args[i]) != 0 {
			best = smallest(best, t.below(headOf(f, u, i), t.ofValues(fold.Part(f, u, i), u.Args[i], v.Args[i])))
		}
	}
	return best
}

// headOf returns the first node of the formulas about the Args at i of v, a value of a product, a sum or a list.
func headOf(f api.Functor, v api.Value, i int) api.Formula {
	switch f.Kind {
	case api.FProd:
		return api.Formula{Op: api.LFirst + i}
	case api.FSum:
		return api.Formula{Op: api.LLeft + v.N}
	}
	return api.Formula{Op: api.LAt, N: i}
}

// class returns a formula that is true of exactly the states that behave like x.
func (t *teller) class(x int) *formula {
	last := t.firsts[len(t.firsts)-1]
	var states []api.Value
	gains := make([]int64, len(t.next))
	for y := range t.next {
		states = append(states, api.Value{N: y})
		if last[y] != last[x] {
			gains[y] = -1
		}
	}
	gains[x] = 1 // so that any other one outweighs it
	return t.narrowed(x, gains, states, t.ofStates)
}
