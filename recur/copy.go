package recur

import "ectype/api"

// Copier copies terms, in which others may take the place of variables: copies within copies may become far too large.
// It panics at the first excess.
type Copier struct {
	nodes int // how many nodes may follow
}

// Copied returns what write makes with a copier, or false if all that is copied has more than MaxTerm nodes, or more than MaxDepth recursions within each other.
func Copied[R any](write func(c *Copier) R) (result R, ok bool) {
	defer func() {
		if recover() != nil {
			var none R
			result, ok = none, false
		}
	}()
	return write(&Copier{nodes: api.MaxTerm}), true
}

// Copies returns two functions that call each other: they copy a term, or a part, with so many recursions around it, in new memory.
// What by returns takes the place of a variable: by knows its number, and how many recursions are around it.
func (c *Copier) Copies(by func(k, around int) api.Term) (ofTerm func(t api.Term, around int) api.Term, ofPart func(p api.Part, around int) api.Part) {
	ofTerm = func(t api.Term, around int) api.Term {
		if IsVariable(t) {
			return by(t.Var, around)
		}
		if around == api.MaxDepth {
			panic(api.ErrLarge)
		}
		c.count()
		return api.Term{Body: []api.Part{ofPart(t.Body[0], around+1)}}
	}
	ofPart = func(p api.Part, around int) api.Part {
		c.count()
		// A list without capacity has no room for what is appended: it gets memory of its own.
		q := api.Part{N: p.N, Weights: append(p.Weights[:0:0], p.Weights...)}
		for _, a := range p.Args {
			q.Args = append(q.Args, ofPart(a, around))
		}
		for _, t := range p.Terms {
			q.Terms = append(q.Terms, ofTerm(t, around))
		}
		return q
	}
	return ofTerm, ofPart
}

// Variable returns the variable k, as a part of what is copied.
func (c *Copier) Variable(k int) api.Term {
	c.count()
	return api.Term{Var: k}
}

// count counts a node.
func (c *Copier) count() {
	if c.nodes == 0 {
		panic(api.ErrLarge)
	}
	c.nodes--
}
