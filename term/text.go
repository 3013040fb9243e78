package term

import (
	"slices"
	"strconv"

	"ectype/api"
	"ectype/fold"
	"ectype/functor"
	"ectype/notation"
	"ectype/scan"
)

// String returns the string of t.
func String(f api.Functor, t api.Term) (string, api.Errno) {
	if e := Check(f, t); e != api.OK {
		return "", e
	}
	return text(f, t), api.OK
}

func text(f api.Functor, t api.Term) string {
	if isVariable(t) {
		return "#" + strconv.Itoa(t.Var)
	}
	var terms []api.Term
	v := valueOf(t.Body[0], func(t api.Term) int {
		terms = append(terms, t)
		return len(terms) - 1
	})
	return "<" + notation.Text(f, v, func(u api.Value) string { return text(f, terms[u.N]) }) + ">"
}

// Parse returns the term whose string is s.
func Parse(f api.Functor, s string) (api.Term, api.Errno) {
	if functor.Check(f) != api.OK {
		return api.Term{}, api.ErrFunctor
	}
	if len(s) > api.MaxText {
		return api.Term{}, api.ErrLarge
	}
	// Any numbers and variables are read: Check says which ones are valid.
	t, ok := scan.All(s, func(r *scan.Reader) api.Term { return read(r, f) })
	if !ok {
		return api.Term{}, api.ErrText
	}
	if Check(f, t) != api.OK {
		return api.Term{}, api.ErrTerm
	}
	return t, api.OK
}

// read reads a term of f, and panics where the text is no string of one.
func read(r *scan.Reader, f api.Functor) api.Term {
	if r.Peek() == '#' {
		r.Take('#')
		return api.Term{Var: r.Number()}
	}
	var terms []api.Term
	r.Take('<')
	v := notation.Read(r, f, func() api.Value {
		t := read(r, f)
		terms = append(terms, t)
		return api.Value{N: len(terms) - 1}
	})
	r.Take('>')
	if !hasItsInputs(f, v) {
		panic(api.ErrText)
	}
	return api.Term{Body: []api.Part{partOf(f, v, func(i int) api.Term { return terms[i] })}}
}

// hasItsInputs reports whether v, which is read as a value of f, has an element for each input. (Collections have any number of them.)
func hasItsInputs(f api.Functor, v api.Value) bool {
	leaf := func(api.Value) bool { return true }
	return fold.Of(f, v, leaf, func(f api.Functor, _ api.Value, args []bool) bool {
		return (f.Kind != api.FExp || len(args) == f.N) && !slices.Contains(args, false)
	})
}
