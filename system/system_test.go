package system

import (
	"fmt"
	"math"
	"math/big"
	"reflect"
	"slices"
	"strings"
	"testing"

	"ectype/api"
	"ectype/functor"
)

// coins is the system of the second example of DOC.md.
const coins = "type 2 * D(X)\n0 = (0, {1 : 1, 2 : 2})\n1 = (1, {1 : 1})\n2 = (1, {2 : 1})\n"

// of returns the system of a text.
func of(t *testing.T, text string) api.System {
	t.Helper()
	s, e := Parse(text)
	if e != api.OK {
		t.Fatalf("%q is no system: %d", text, e)
	}
	return s
}

// typed returns the functor of a string.
func typed(t *testing.T, s string) api.Functor {
	t.Helper()
	f, e := functor.Parse(s)
	if e != api.OK {
		t.Fatalf("%s is no functor", s)
	}
	return f
}

func at(n int) api.Value               { return api.Value{N: n} }
func list(args ...api.Value) api.Value { return api.Value{Args: args} }
func weighed(weights []int, args ...api.Value) api.Value {
	return api.Value{Args: args, Weights: weights}
}

func isZero(s api.System) bool {
	return reflect.DeepEqual(s, api.System{})
}

// states returns the values of the first states.
func states(n int) []api.Value {
	var l []api.Value
	for x := range n {
		l = append(l, at(x))
	}
	return l
}

// times returns a list of n times the same element.
func times[E any](n int, x E) []E {
	return slices.Repeat([]E{x}, n)
}

// inputs returns the value of 1 with so many inputs at each depth, the deepest one first.
func inputs(l ...int) api.Value {
	v := at(0)
	for _, n := range l {
		v = list(times(n, v)...)
	}
	return v
}

// crowd returns a system of P(X) ^ 4 with n states. The four sets of each state have so many elements together, those of state 0 have more.
// A state has 5 nodes and those elements: with 100 states and 195 elements there are MaxTotal nodes.
func crowd(t *testing.T, n, elements, more int) api.System {
	t.Helper()
	s := api.System{Functor: typed(t, "P(X) ^ 4")}
	for x := range n {
		left := elements
		if x == 0 {
			left += more
		}
		var sets []api.Value
		for range 4 {
			sets = append(sets, list(states(min(left, n))...))
			left -= min(left, n)
		}
		if left > 0 {
			t.Fatalf("%d states do not have four sets of %d elements", n, elements)
		}
		s.Next = append(s.Next, list(sets...))
	}
	return s
}

func TestValidSystems(t *testing.T) {
	for name, s := range map[string]api.System{
		"no states":        {Functor: typed(t, "D(X)")},
		"an empty slice":   {Functor: typed(t, "X"), Next: []api.Value{}},
		"a loop":           {Functor: typed(t, "X"), Next: []api.Value{at(0)}},
		"MaxStates states": {Functor: typed(t, "X"), Next: times(api.MaxStates, at(99))},
		"coins":            {Functor: typed(t, "2 * D(X)"), Next: []api.Value{list(at(0), weighed([]int{1, 2}, at(1), at(2))), list(at(1), weighed([]int{1}, at(1))), list(at(1), weighed([]int{1}, at(2)))}},
		"MaxTotal nodes":   crowd(t, 100, 195, 0),
		"many nodes":       crowd(t, 50, 195, 5),
	} {
		if e := Check(s); e != api.OK {
			t.Errorf("%s: %d", name, e)
		}
	}
	if n := nodes(crowd(t, 100, 195, 0).Next); n != api.MaxTotal {
		t.Errorf("the crowd has %d nodes", n)
	}
}

// invalidSystems returns systems that are not valid, by names.
func invalidSystems(t *testing.T) map[string]api.System {
	t.Helper()
	inside := at(0)
	for range 8 {
		inside = list(times(100, inside)...)
	}
	nested := typed(t, "X")
	for range 7 {
		nested = api.Functor{Kind: api.FPow, Args: []api.Functor{nested}}
	}
	invalid := func(f string, next ...api.Value) api.System {
		return api.System{Functor: typed(t, f), Next: next}
	}
	return map[string]api.System{
		"functor":                     {Functor: api.Functor{Kind: api.FConst}},
		"functor of no kind":          {Functor: api.Functor{Kind: -1}, Next: []api.Value{at(0)}},
		"functor that is too deep":    {Functor: api.Functor{Kind: api.FPow, Args: []api.Functor{nested}}},
		"functor that has arguments":  {Functor: api.Functor{Args: []api.Functor{{}}}, Next: []api.Value{at(0)}},
		"state 1 of 1":                invalid("X", at(1)),
		"state -1":                    invalid("X", at(-1)),
		"least state":                 invalid("X", at(math.MinInt)),
		"later state":                 invalid("X", at(0), at(1), at(3)),
		"output":                      invalid("2 * X", list(at(2), at(0))),
		"one argument":                invalid("2 * X", list(at(0))),
		"elements in another order":   invalid("P(X)", list(), list(at(1), at(0))),
		"equal elements":              invalid("P(X)", list(at(0), at(0))),
		"no distribution":             invalid("D(X)", list()),
		"weight of 0":                 invalid("B(X)", weighed([]int{0}, at(0))),
		"no weights":                  invalid("B(X)", list(at(0))),
		"common divisor":              invalid("D(X)", weighed([]int{2}, at(0))),
		"too much weight":             invalid("B(X)", weighed([]int{api.MaxWeight, 1}, at(0), at(1)), weighed(nil)),
		"too many states":             invalid("X", times(api.MaxStates+1, at(0))...),
		"too many states of 1":        invalid("1", times(api.MaxStates+1, at(0))...),
		"very many states":            invalid("X", times(1<<20, at(0))...),
		"too many nodes":              crowd(t, 100, 195, 1),
		"too many nodes in one value": {Functor: typed(t, "(((((1 ^ 4) ^ 4) ^ 4) ^ 4) ^ 4) ^ 2"), Next: []api.Value{inputs(4, 4, 4, 4, 4, 2)}},
		"shared memory":               {Functor: nested, Next: []api.Value{inside}},
	}
}

// TestInvalidSystems checks that this error comes before all others, for each system of a call, and that results next to it are zero values.
func TestInvalidSystems(t *testing.T) {
	good := of(t, coins)
	for name, s := range invalidSystems(t) {
		check := func(call string, e api.Errno, zero bool) {
			t.Helper()
			if e != api.ErrSystem || !zero {
				t.Errorf("%s: %s: error %d, zero values: %v", name, call, e, zero)
			}
		}
		check("Check", Check(s), true)
		sum, e := Sum(s, good)
		check("Sum of it", e, isZero(sum))
		sum, e = Sum(good, s)
		check("Sum with it", e, isZero(sum))
		part, kept, e := Part(s, []int{-1})
		check("Part", e, isZero(part) && kept == nil)
		part, kept, e = Part(s, nil)
		check("Part from nothing", e, isZero(part) && kept == nil)
		quotient, e := Quotient(s, []int{-1})
		check("Quotient", e, isZero(quotient))
		quotient, e = Quotient(s, make([]int, len(s.Next)))
		check("Quotient to one state", e, isZero(quotient))
		is, e := Is(s, good, []int{7})
		check("Is from it", e, !is)
		is, e = Is(good, s, []int{7})
		check("Is to it", e, !is)
		is, e = Is(s, s, nil)
		check("Is with itself", e, !is)
		text, e := String(s)
		check("String", e, text == "")
	}
}

func TestDifferentFunctors(t *testing.T) {
	s := of(t, "type 2 * X\n0 = (0, 0)\n")
	for _, text := range []string{"type X * 2\n", "type 3 * X\n0 = (0, 0)\n", "type 2 + X\n0 = l 0\n", "type X\n0 = 0", "type 2 * (X * X)"} {
		u := of(t, text)
		for _, pair := range [][2]api.System{{s, u}, {u, s}} {
			if sum, e := Sum(pair[0], pair[1]); e != api.ErrArg || !isZero(sum) {
				t.Errorf("%q: Sum %v %d", text, sum, e)
			}
			for _, h := range [][]int{nil, {0}, {9}} {
				if is, e := Is(pair[0], pair[1], h); e != api.ErrArg || is {
					t.Errorf("%q: Is %v %d", text, is, e)
				}
			}
		}
	}
	big := crowd(t, 100, 195, 0)
	if sum, e := Sum(big, s); e != api.ErrArg || !isZero(sum) {
		t.Errorf("a large sum: %v %d", sum, e)
	}
}

func TestSame(t *testing.T) {
	deep, deeper := at(0), at(1)
	for range 1<<16 - 1 {
		deep, deeper = list(deep), list(deeper)
	}
	l := []api.System{
		{},
		{Next: []api.Value{at(0)}},
		{Next: []api.Value{at(1)}},
		{Next: []api.Value{at(0), at(0)}},
		{Next: []api.Value{at(0), at(1)}},
		{Next: []api.Value{at(1), at(0)}},
		{Next: []api.Value{list(at(0))}},
		{Next: []api.Value{weighed([]int{1}, at(0))}},
		{Next: []api.Value{weighed([]int{2}, at(0))}},
		{Next: []api.Value{deep}},
		{Next: []api.Value{deeper}},
		{Functor: api.Functor{Kind: -5, N: 3}},
		{Functor: api.Functor{N: 1}},
		{Functor: typed(t, "P(X)")},
		{Functor: typed(t, "P(X)"), Next: []api.Value{{}}},
		{Functor: typed(t, "B(X)"), Next: []api.Value{{}}},
		of(t, coins),
		of(t, strings.Replace(coins, "(0,", "(1,", 1)),
		of(t, strings.Replace(coins, "1 : 1, 2 : 2", "1 : 2, 2 : 1", 1)),
		of(t, strings.Replace(coins, "2 * D", "3 * D", 1)),
	}
	for i, s := range l {
		for j, u := range l {
			if Same(s, u) != (i == j) {
				t.Errorf("%d and %d: %v", i, j, i != j)
			}
		}
	}
	if !Same(of(t, coins), of(t, coins)) {
		t.Error("equal systems differ")
	}
	empty := api.System{Functor: api.Functor{Args: []api.Functor{}}, Next: []api.Value{}}
	if !Same(api.System{}, empty) || !Same(api.System{Next: []api.Value{{}}}, api.System{Next: []api.Value{{Args: []api.Value{}, Weights: []int{}}}}) {
		t.Error("an empty slice and nil differ")
	}
}

// small has functors, and for each of them so many states that there are not too many systems.
func small() map[string]int {
	return map[string]int{"X": 3, "3": 2, "2 * X": 2, "1 + X": 3, "X ^ 2": 2, "P(X)": 3, "B(X)": 2, "D(X)": 2, "P(P(X))": 1, "X * P(X)": 2, "D(B(X))": 1}
}

// texts returns the strings of all values of f over n states, with weights of 1 and 2.
func texts(f api.Functor, n int) []string {
	var parts [][]string
	for _, a := range f.Args {
		parts = append(parts, texts(a, n))
	}
	var l []string
	switch f.Kind {
	case api.FId, api.FConst:
		for x := range max(n*(1-f.Kind), f.N) {
			l = append(l, fmt.Sprint(x))
		}
	case api.FProd:
		for _, c := range choices(parts...) {
			l = append(l, "("+strings.Join(c, ", ")+")")
		}
	case api.FSum:
		for i, side := range []string{"l ", "r "} {
			for _, text := range parts[i] {
				l = append(l, side+text)
			}
		}
	case api.FExp:
		for _, c := range choices(times(f.N, parts[0])...) {
			l = append(l, "["+strings.Join(c, ", ")+"]")
		}
	default:
		l = collections(f.Kind, parts[0])
	}
	return l
}

// collections returns the strings of all sets, multisets or distributions of some elements.
func collections(kind int, elements []string) []string {
	ends := []string{""}
	if kind != api.FPow {
		ends = []string{" : 1", " : 2"}
	}
	var lists [][]string
	for _, element := range elements {
		l := []string{""}
		for _, end := range ends {
			l = append(l, element+end)
		}
		lists = append(lists, l)
	}
	var l []string
	for _, c := range choices(lists...) {
		c = slices.DeleteFunc(c, func(s string) bool { return s == "" })
		if kind != api.FDist || len(c) > 0 {
			l = append(l, "{"+strings.Join(c, ", ")+"}")
		}
	}
	return l
}

// choices returns all lists that have one element of each of the lists.
func choices[E any](lists ...[]E) [][]E {
	l := [][]E{nil}
	for _, elements := range lists {
		var longer [][]E
		for _, first := range l {
			for _, x := range elements {
				longer = append(longer, append(slices.Clone(first), x))
			}
		}
		l = longer
	}
	return l
}

// all returns all systems of a functor with n states.
func all(t *testing.T, f string, n int) []api.System {
	t.Helper()
	var l []api.System
	for _, c := range choices(times(n, texts(typed(t, f), n))...) {
		text := "type " + f + "\n"
		for x, v := range c {
			text += fmt.Sprint(x, " = ", v, "\n")
		}
		l = append(l, of(t, text))
	}
	return l
}

// functions returns all functions from n states to m.
func functions(n, m int) [][]int {
	return choices(times(n, upTo(m))...)
}

// upTo returns the numbers from 0 to n - 1.
func upTo(n int) []int {
	l := []int{}
	for x := range n {
		l = append(l, x)
	}
	return l
}

// meaning returns what a value of f is when each state x is replaced by h[x], as a string: probabilities are written as fractions.
func meaning(f api.Functor, v api.Value, h []int) string {
	if f.Kind == api.FId {
		return fmt.Sprint("state ", h[v.N])
	}
	if f.Kind < api.FPow {
		s := fmt.Sprint(v.N)
		for i, a := range v.Args {
			g := f.Args[0]
			if f.Kind == api.FProd {
				g = f.Args[i]
			} else if f.Kind == api.FSum {
				g = f.Args[v.N]
			}
			s += " <" + meaning(g, a, h) + ">"
		}
		return s
	}
	weights, total := map[string]int64{}, int64(0)
	for i, a := range v.Args {
		w := int64(1)
		if f.Kind != api.FPow {
			w = int64(v.Weights[i])
		}
		weights[meaning(f.Args[0], a, h)] += w
		total += w
	}
	for s, w := range weights {
		switch f.Kind {
		case api.FPow:
			delete(weights, s)
			weights["in "+s] = 1
		case api.FDist:
			delete(weights, s)
			weights[s+" "+big.NewRat(w, total).String()] = 1
		}
	}
	return fmt.Sprint(weights)
}

// isMap is the definition of a homomorphism.
func isMap(s, u api.System, h []int) bool {
	for x, v := range s.Next {
		if meaning(s.Functor, v, h) != meaning(s.Functor, u.Next[h[x]], upTo(len(u.Next))) {
			return false
		}
	}
	return len(h) == len(s.Next)
}

// newMemory checks that no slice of the results begins where one seen before begins, and remembers them.
func newMemory(t *testing.T, seen map[uintptr]bool, results ...any) {
	t.Helper()
	for _, r := range results {
		walk(t, seen, reflect.ValueOf(r))
	}
}

func walk(t *testing.T, seen map[uintptr]bool, v reflect.Value) {
	t.Helper()
	switch v.Kind() {
	case reflect.Struct:
		for i := range v.NumField() {
			walk(t, seen, v.Field(i))
		}
	case reflect.Slice:
		if v.Cap() > 0 && seen[v.Pointer()] {
			t.Errorf("shared memory: %v", v)
		}
		if v.Cap() > 0 {
			seen[v.Pointer()] = true
		}
		for i := range v.Len() {
			walk(t, seen, v.Index(i))
		}
	}
}

// TestMemory checks that results are new memory, and that arguments are not changed, also beyond the lengths of their slices.
func TestMemory(t *testing.T) {
	build := func() api.System {
		s := of(t, coins)
		s.Next = append(s.Next, at(77))[:3]
		return s
	}
	s, u := build(), build()
	from, to := append([]int{1, 0, 1}, 5)[:3], append([]int{0, 1, 1}, 5)[:3]
	sum, _ := Sum(s, u)
	twice, _ := Sum(s, s)
	part, kept, _ := Part(s, from)
	quotient, _ := Quotient(s, to)
	is, _ := Is(s, quotient, to)
	text, _ := String(s)
	parsed, _ := Parse(text)
	if !is || !Same(s, parsed) || !Same(s, part) || !Same(sum, twice) {
		t.Fatal("wrong results")
	}
	if !Same(s, build()) || s.Next[:4][3].N != 77 || !slices.Equal(from[:4], []int{1, 0, 1, 5}) || !slices.Equal(to[:4], []int{0, 1, 1, 5}) {
		t.Error("an argument was changed")
	}
	newMemory(t, map[uintptr]bool{}, s, u, from, to, sum, twice, part, kept, quotient, parsed)
}
