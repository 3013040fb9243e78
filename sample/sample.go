// Package sample has what the tests of the layers begin with: known functors and systems, and thrown ones, always the same.
package sample

import (
	"slices"

	"ectype/api"
	"ectype/fold"
	"ectype/value"
)

// Dice are numbers that look random, always the same ones from the same start.
type Dice uint64

// Below returns a number from 0 to n - 1.
func (d *Dice) Below(n int) int {
	*d = *d*6364136223846793005 + 1442695040888963407
	return int(uint64(*d)>>33) % n
}

// Value returns some value of f over n states, of which there is at least one. Collections have at most three elements, and small weights.
func (d *Dice) Value(f api.Functor, n int) api.Value {
	return Must(value.Normal(f, n, d.raw(f, n)))
}

// raw returns some value of f over n states that need not be in normal form.
func (d *Dice) raw(f api.Functor, n int) api.Value {
	var v api.Value
	parts := slices.Clone(f.Args)
	switch f.Kind {
	case api.FId:
		v.N = d.Below(n)
	case api.FConst:
		v.N = d.Below(f.N)
	case api.FSum:
		v.N = d.Below(2)
		parts = parts[v.N : v.N+1]
	case api.FExp:
		parts = slices.Repeat(parts, f.N)
	case api.FPow, api.FBag:
		parts = slices.Repeat(parts, d.Below(4))
	case api.FDist:
		parts = slices.Repeat(parts, 1+d.Below(3))
	}
	for _, g := range parts {
		v.Args = append(v.Args, d.raw(g, n))
		if f.Kind == api.FBag || f.Kind == api.FDist {
			v.Weights = append(v.Weights, 1+d.Below(2))
		}
	}
	return v
}

// System returns some system of a functor, given as a string, with n states.
func (d *Dice) System(f string, n int) api.System {
	s := api.System{Functor: Functor(f)}
	for range n {
		s.Next = append(s.Next, d.Value(s.Functor, n))
	}
	return s
}

// Cover returns a system with n states, at least as many as s has, and a homomorphism from it to s.
func (d *Dice) Cover(s api.System, n int) (api.System, []int) {
	h := make([]int, n)
	above := make([][]int, len(s.Next))
	for x := range h {
		if h[x] = x; x >= len(s.Next) {
			h[x] = d.Below(len(s.Next))
		}
		above[h[x]] = append(above[h[x]], x)
	}
	c := api.System{Functor: s.Functor}
	for _, y := range h {
		c.Next = append(c.Next, Must(value.Normal(s.Functor, n, d.lifted(s.Functor, s.Next[y], above))))
	}
	return c, h
}

// lifted returns v with some state above each of its states; elements of collections are split.
func (d *Dice) lifted(f api.Functor, v api.Value, above [][]int) api.Value {
	if f.Kind == api.FId {
		return api.Value{N: above[v.N][d.Below(len(above[v.N]))]}
	}
	w := api.Value{N: v.N}
	for i, a := range v.Args {
		g := fold.Part(f, v, i)
		w.Args = append(w.Args, d.lifted(g, a, above))
		switch f.Kind {
		case api.FPow:
			w.Args = append(w.Args, d.lifted(g, a, above))
		case api.FBag, api.FDist:
			all, part := v.Weights[i], 0
			if f.Kind == api.FDist {
				all *= 3
			}
			if all > 1 {
				part = 1 + d.Below(all-1)
				w.Args, w.Weights = append(w.Args, d.lifted(g, a, above)), append(w.Weights, part)
			}
			w.Weights = append(w.Weights, all-part)
		}
	}
	return w
}
