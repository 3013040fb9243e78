package equiv

import (
	"fmt"
	"reflect"
	"slices"

	"ectype/api"
	"ectype/sample"
	"ectype/system"
)

// What package sample has, by shorter names.
const coins = sample.Coins

var typed, of, written, states = sample.Functor, sample.System, sample.Text, sample.States

func must[R any](r R, e api.Errno) R { return sample.Must(r, e) }

func isZero(s api.System) bool { return reflect.DeepEqual(s, api.System{}) }

// chain returns a system of 2 * X whose states are followed by each other; only the last one, which is followed by itself, has the output last.
func chain(n, last int) api.System {
	var next []string
	for x := range n - 1 {
		next = append(next, fmt.Sprintf("(0, %d)", x+1))
	}
	return states("2 * X", append(next, fmt.Sprintf("(%d, %d)", last, n-1))...)
}

// ring returns a system of 100 states that have different outputs, also from those of a ring with another shift.
func ring(shift int) api.System {
	var next []string
	for x := range 100 {
		next = append(next, fmt.Sprintf("(%d, (%d, %d))", x%16, x/16+shift, (x+1)%100))
	}
	return states("16 * (16 * X)", next...)
}

// ordinals returns a system of P(X) ^ inputs with 100 classes, whose states have sets of states before them. With 4 inputs it has almost MaxTotal nodes.
func ordinals(inputs int) api.System {
	s := api.System{Functor: typed(fmt.Sprintf("P(X) ^ %d", inputs))}
	for x := range api.MaxStates {
		var set api.Value
		for y := range x {
			if y < 45 || y == x-1 {
				set.Args = append(set.Args, api.Value{N: y})
			}
		}
		s.Next = append(s.Next, api.Value{Args: slices.Repeat([]api.Value{set}, inputs)})
	}
	return s
}

// dice throw values and systems.
type dice struct{ sample.Dice }

// functors are the functors of which systems are thrown: each kind, and combinations of them.
var functors = []string{
	"X", "2", "2 * X", "X + 2", "X * X", "2 * X ^ 2", "P(X)", "2 * P(X)", "P(P(X))", "P(X * 2)", "P(1 + X)", "P(X) * P(X)", "P(X) ^ 2",
	"B(X)", "B(1 + X)", "2 * B(X)", "B(X) + X", "D(X)", "2 * D(X)", "1 + D(X)", "D(X + 2)", "D(P(X))", "P(D(1 + X))", "B(P(X))", "(1 + P(X)) ^ 2",
}

// permuted returns a system with the states of s in another order, and the new number of each state.
func (d *dice) permuted(s api.System) (api.System, []int) {
	var to []int
	for x := range s.Next {
		to = slices.Insert(to, d.Below(x+1), x)
	}
	return must(system.Quotient(s, to)), to
}

// thrownSystems calls do with some systems of each of the functors, with 1 to most states.
func thrownSystems(many, most int, do func(d *dice, s api.System)) {
	d := dice{1}
	for _, f := range functors {
		for i := range many {
			do(&d, d.System(f, 1+i%most))
		}
	}
}

// partitions returns all maps from n states to classes, numbered in the order of their first states.
func partitions(n int) [][]int {
	if n == 0 {
		return [][]int{nil}
	}
	var l [][]int
	for _, p := range partitions(n - 1) {
		most := 0
		for _, c := range p {
			most = max(most, c+1)
		}
		for c := range most + 1 {
			l = append(l, append(slices.Clone(p), c))
		}
	}
	return l
}

// quotients returns all maps from the states of a small system to classes that are homomorphisms to a system.
func quotients(s api.System) [][]int {
	return slices.DeleteFunc(partitions(len(s.Next)), func(p []int) bool {
		_, e := system.Quotient(s, p)
		return e != api.OK
	})
}

// behaveAlike is the definition, for two states of one small system: some homomorphism maps them to the same state.
func behaveAlike(s api.System) func(x, y int) bool {
	maps := quotients(s)
	return func(x, y int) bool {
		return slices.ContainsFunc(maps, func(to []int) bool { return to[x] == to[y] })
	}
}
