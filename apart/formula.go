package apart

import (
	"cmp"
	"slices"

	"ectype/api"
	"ectype/truth"
)

// formula is a formula whose parts may be parts of others, too; nil stands for one that is too large.
type formula struct {
	head        api.Formula // its first node, without Args
	args        []*formula
	size, depth int
	isTrue      truth.Predicate
}

// made returns a formula about states with these next values, or about values over them, from its first node and its Args.
func made(next []api.Value, head api.Formula, args ...*formula) *formula {
	a := &formula{head: head, args: args, size: 1, depth: 1}
	var parts []truth.Predicate
	for _, b := range args {
		if b == nil {
			return nil
		}
		a.size += b.size
		a.depth = max(a.depth, b.depth+1)
		parts = append(parts, b.isTrue)
	}
	if a.size > api.MaxFormula || a.depth > api.MaxDepth {
		return nil
	}
	a.isTrue = truth.Of(next, head, parts)
	return a
}

// tree returns a in new memory.
func (a *formula) tree() api.Formula {
	t := a.head
	for _, b := range a.args {
		t.Args = append(t.Args, b.tree())
	}
	return t
}

// negated returns the formula that is true of what a is not true of.
func negated(a *formula) *formula {
	return made(nil, api.Formula{Op: api.LNot}, a)
}

// all returns the formula that is true of what all parts are true of.
func all(parts []*formula) *formula {
	if len(parts) == 0 {
		return made(nil, api.Formula{Op: api.LTop})
	}
	l := slices.Clone(parts)
	for len(l) > 1 {
		// The deepest parts are joined last, so that they do not become much deeper.
		slices.SortStableFunc(l, func(a, b *formula) int { return cmp.Compare(a.depth, b.depth) })
		joined := made(nil, api.Formula{Op: api.LAnd}, l[0], l[1])
		if joined == nil {
			return nil
		}
		l = append(l[2:], joined)
	}
	return l[0]
}

// smaller returns the smaller one of two formulas, the first one if they have the same size.
func smaller(a, b *formula) *formula {
	if a == nil || b != nil && b.size < a.size {
		return b
	}
	return a
}

// sides are two formulas that tell two states or values apart: one that is true of the first one only, and one that is true of the second one only.
type sides struct {
	first, second *formula
}

// smallest returns the smaller formulas of two such pairs, or their negations where these are smaller.
func smallest(l, m sides) sides {
	first, second := smaller(l.first, m.first), smaller(l.second, m.second)
	return sides{smaller(first, negated(second)), smaller(second, negated(first))}
}
