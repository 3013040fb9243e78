package recur

import (
	"slices"
	"strconv"

	"ectype/api"
	"ectype/fold"
	"ectype/notation"
	"ectype/scan"
)

// Text returns the string of t, a term of f, wherever its variables refer to.
func Text(f api.Functor, t api.Term) string {
	if IsVariable(t) {
		return "#" + strconv.Itoa(t.Var)
	}
	var terms []api.Term
	v := valueOf(t.Body[0], func(t api.Term) int {
		terms = append(terms, t)
		return len(terms) - 1
	})
	return "<" + notation.Text(f, v, func(u api.Value) string { return Text(f, terms[u.N]) }) + ">"
}

// Read reads a term of f, and panics where the text is no string of one. Any numbers and variables are read: it is left to others which ones are valid.
func Read(r *scan.Reader, f api.Functor) api.Term {
	if r.Peek() == '#' {
		r.Take('#')
		return api.Term{Var: r.Number()}
	}
	var terms []api.Term
	r.Take('<')
	v := notation.Read(r, f, func() api.Value {
		t := Read(r, f)
		terms = append(terms, t)
		return api.Value{N: len(terms) - 1}
	})
	r.Take('>')
	if !hasItsInputs(f, v) {
		panic(api.ErrText)
	}
	return api.Term{Body: []api.Part{PartOf(f, v, func(i int) api.Term { return terms[i] })}}
}

// hasItsInputs reports whether v, which is read as a value of f, has an element for each input. (Collections have any number of them.)
func hasItsInputs(f api.Functor, v api.Value) bool {
	leaf := func(api.Value) bool { return true }
	return fold.Of(f, v, leaf, func(f api.Functor, _ api.Value, args []bool) bool {
		return (f.Kind != api.FExp || len(args) == f.N) && !slices.Contains(args, false)
	})
}
