package system

import (
	"iter"
	"strconv"
	"strings"

	"ectype/api"
	"ectype/functor"
	"ectype/value"
)

// Parse returns the system whose string is the text.
func Parse(text string) (api.System, api.Errno) {
	if len(text) > api.MaxText {
		return api.System{}, api.ErrLarge
	}
	head, states, ok := split(text)
	if !ok {
		return api.System{}, api.ErrText
	}
	f, e := functor.Parse(head)
	if e == api.ErrText {
		return api.System{}, api.ErrText
	}
	if e != api.OK || len(states) > api.MaxStates {
		return api.System{}, api.ErrSystem
	}
	next, e := values(f, states)
	if e != api.OK {
		return api.System{}, e
	}
	s := api.System{Functor: f, Next: next}
	if Check(s) != api.OK {
		return api.System{}, api.ErrSystem
	}
	return s, api.OK
}

// split returns what follows `type` in the first line of the text, and what follows the number of the state and `=` in each other line.
func split(text string) (head string, states []string, ok bool) {
	for i, line := range lines(text) {
		if i == 0 {
			head, ok = take(line, "type")
		} else {
			line, ok = take(line, strconv.Itoa(i-1), "=")
			states = append(states, line)
		}
		if !ok {
			return "", nil, false
		}
	}
	return head, states, ok
}

// lines yields the lines of the text with their numbers from 0 on. The line feed of the last one may be missing.
func lines(text string) iter.Seq2[int, string] {
	return func(yield func(int, string) bool) {
		rest := text
		for i := 0; rest != ""; i++ {
			line, next, _ := strings.Cut(rest, "\n")
			if !yield(i, line) {
				return
			}
			rest = next
		}
	}
}

// take returns what follows the tokens at the beginning of the line, where blanks before tokens are ignored.
func take(line string, tokens ...string) (rest string, ok bool) {
	for _, token := range tokens {
		line, ok = strings.CutPrefix(strings.TrimLeft(line, " "), token)
		if !ok {
			return "", false
		}
	}
	return line, true
}

// values returns the values of f whose strings are given, one for each state.
// It reads all of them before it reports one that is not valid, since the error of a text comes first.
func values(f api.Functor, texts []string) ([]api.Value, api.Errno) {
	var l []api.Value
	valid := true
	for _, text := range texts {
		v, e := value.Parse(f, len(texts), text)
		if e == api.ErrText {
			return nil, api.ErrText
		}
		valid = valid && e == api.OK
		l = append(l, v)
	}
	if !valid {
		return nil, api.ErrSystem
	}
	return l, api.OK
}
