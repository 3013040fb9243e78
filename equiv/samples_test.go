package equiv

import (
	"fmt"
	"reflect"
	"slices"

	"ectype/api"
	"ectype/functor"
	"ectype/system"
	"ectype/value"
)

// coins is the system of the second example of DOC.md.
const coins = "type 2 * D(X)\n0 = (0, {1 : 1, 2 : 2})\n1 = (1, {1 : 1})\n2 = (1, {2 : 1})\n"

// must returns the result of a call that has to succeed.
func must[R any](r R, e api.Errno) R {
	if e != api.OK {
		panic(fmt.Sprint("error ", e))
	}
	return r
}

func typed(s string) api.Functor  { return must(functor.Parse(s)) }
func of(text string) api.System   { return must(system.Parse(text)) }
func written(s api.System) string { return must(system.String(s)) }
func isZero(s api.System) bool    { return reflect.DeepEqual(s, api.System{}) }

// states returns the system of a functor in which the states have these next values.
func states(f string, next ...string) api.System {
	text := "type " + f + "\n"
	for x, v := range next {
		text += fmt.Sprintf("%d = %s\n", x, v)
	}
	return of(text)
}

// chain returns a system of 2 * X whose states are followed by each other; only the last one, which is followed by itself, has the output last.
func chain(n, last int) api.System {
	var next []string
	for x := range n - 1 {
		next = append(next, fmt.Sprintf("(0, %d)", x+1))
	}
	return states("2 * X", append(next, fmt.Sprintf("(%d, %d)", last, n-1))...)
}

// ring returns a system of 100 states that have different outputs, also from those of a ring with another shift.
func ring(shift int) api.System {
	var next []string
	for x := range 100 {
		next = append(next, fmt.Sprintf("(%d, (%d, %d))", x%16, x/16+shift, (x+1)%100))
	}
	return states("16 * (16 * X)", next...)
}

// ordinals returns a system of P(X) ^ inputs with 100 classes, whose states have sets of states before them. With 4 inputs it has almost MaxTotal nodes.
func ordinals(inputs int) api.System {
	s := api.System{Functor: typed(fmt.Sprintf("P(X) ^ %d", inputs))}
	for x := range api.MaxStates {
		var set api.Value
		for y := range x {
			if y < 45 || y == x-1 {
				set.Args = append(set.Args, api.Value{N: y})
			}
		}
		s.Next = append(s.Next, api.Value{Args: slices.Repeat([]api.Value{set}, inputs)})
	}
	return s
}

// dice are numbers that look random, always the same ones from the same start.
type dice uint64

// below returns a number from 0 to n - 1.
func (d *dice) below(n int) int {
	*d = *d*6364136223846793005 + 1442695040888963407
	return int(uint64(*d)>>33) % n
}

// functors are the functors of which systems are thrown: each kind, and combinations of them.
var functors = []string{
	"X", "2", "2 * X", "X + 2", "X * X", "2 * X ^ 2", "P(X)", "2 * P(X)", "P(P(X))", "P(X * 2)", "P(1 + X)", "P(X) * P(X)", "P(X) ^ 2",
	"B(X)", "B(1 + X)", "2 * B(X)", "B(X) + X", "D(X)", "2 * D(X)", "1 + D(X)", "D(X + 2)", "D(P(X))", "P(D(1 + X))", "B(P(X))", "(1 + P(X)) ^ 2",
}

// thrown returns some value of f over n states. Collections have at most three elements, and small weights.
func (d *dice) thrown(f api.Functor, n int) api.Value {
	return must(value.Normal(f, n, d.raw(f, n)))
}

func (d *dice) raw(f api.Functor, n int) api.Value {
	var v api.Value
	parts := slices.Clone(f.Args)
	switch f.Kind {
	case api.FId:
		v.N = d.below(n)
	case api.FConst:
		v.N = d.below(f.N)
	case api.FSum:
		v.N = d.below(2)
		parts = parts[v.N : v.N+1]
	case api.FExp:
		parts = slices.Repeat(parts, f.N)
	case api.FPow, api.FBag:
		parts = slices.Repeat(parts, d.below(4))
	case api.FDist:
		parts = slices.Repeat(parts, 1+d.below(3))
	}
	for _, g := range parts {
		v.Args = append(v.Args, d.raw(g, n))
		if f.Kind == api.FBag || f.Kind == api.FDist {
			v.Weights = append(v.Weights, 1+d.below(2))
		}
	}
	return v
}

// system returns some system of f with n states.
func (d *dice) system(f string, n int) api.System {
	s := api.System{Functor: typed(f)}
	for range n {
		s.Next = append(s.Next, d.thrown(s.Functor, n))
	}
	return s
}

// permuted returns a system with the states of s in another order, and the new number of each state.
func (d *dice) permuted(s api.System) (api.System, []int) {
	var to []int
	for x := range s.Next {
		to = slices.Insert(to, d.below(x+1), x)
	}
	return must(system.Quotient(s, to)), to
}

// cover returns a system with n states, at least as many as s has, and a homomorphism from it to s.
func (d *dice) cover(s api.System, n int) (api.System, []int) {
	h := make([]int, n)
	above := make([][]int, len(s.Next))
	for x := range h {
		if h[x] = x; x >= len(s.Next) {
			h[x] = d.below(len(s.Next))
		}
		above[h[x]] = append(above[h[x]], x)
	}
	c := api.System{Functor: s.Functor}
	for _, y := range h {
		c.Next = append(c.Next, must(value.Normal(s.Functor, n, d.lifted(s.Functor, s.Next[y], above))))
	}
	return c, h
}

// lifted returns v with some state above each of its states; elements of collections are split.
func (d *dice) lifted(f api.Functor, v api.Value, above [][]int) api.Value {
	if f.Kind == api.FId {
		return api.Value{N: above[v.N][d.below(len(above[v.N]))]}
	}
	w := api.Value{N: v.N}
	for i, a := range v.Args {
		g := partOf(f, v, i)
		w.Args = append(w.Args, d.lifted(g, a, above))
		switch f.Kind {
		case api.FPow:
			w.Args = append(w.Args, d.lifted(g, a, above))
		case api.FBag, api.FDist:
			all, part := v.Weights[i], 0
			if f.Kind == api.FDist {
				all *= 3
			}
			if all > 1 {
				part = 1 + d.below(all-1)
				w.Args, w.Weights = append(w.Args, d.lifted(g, a, above)), append(w.Weights, part)
			}
			w.Weights = append(w.Weights, all-part)
		}
	}
	return w
}

// thrownSystems calls do with some systems of each of the functors, with 1 to most states.
func thrownSystems(many, most int, do func(d *dice, s api.System)) {
	d := dice(1)
	for _, f := range functors {
		for i := range many {
			do(&d, d.system(f, 1+i%most))
		}
	}
}

// partitions returns all maps from n states to classes, numbered in the order of their first states.
func partitions(n int) [][]int {
	if n == 0 {
		return [][]int{nil}
	}
	var l [][]int
	for _, p := range partitions(n - 1) {
		most := 0
		for _, c := range p {
			most = max(most, c+1)
		}
		for c := range most + 1 {
			l = append(l, append(slices.Clone(p), c))
		}
	}
	return l
}

// quotients returns all maps from the states of a small system to classes that are homomorphisms to a system.
func quotients(s api.System) [][]int {
	return slices.DeleteFunc(partitions(len(s.Next)), func(p []int) bool {
		_, e := system.Quotient(s, p)
		return e != api.OK
	})
}

// behaveAlike is the definition, for two states of one small system: some homomorphism maps them to the same state.
func behaveAlike(s api.System) func(x, y int) bool {
	maps := quotients(s)
	return func(x, y int) bool {
		return slices.ContainsFunc(maps, func(to []int) bool { return to[x] == to[y] })
	}
}
