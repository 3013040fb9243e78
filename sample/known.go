package sample

import (
	"strconv"
	"strings"

	"ectype/api"
	"ectype/functor"
	"ectype/system"
)

// Coins is the system of the second example of DOC.md.
const Coins = "type 2 * D(X)\n0 = (0, {1 : 1, 2 : 2})\n1 = (1, {1 : 1})\n2 = (1, {2 : 1})\n"

// Must returns the result of a call that has to succeed.
func Must[R any](r R, e api.Errno) R {
	if e != api.OK {
		panic("error " + strconv.Itoa(int(e)))
	}
	return r
}

// Functor returns the functor with this string.
func Functor(text string) api.Functor {
	return Must(functor.Parse(text))
}

// System returns the system with this string.
func System(text string) api.System {
	return Must(system.Parse(text))
}

// Text returns the string of a system.
func Text(s api.System) string {
	return Must(system.String(s))
}

// States returns the system of a functor in which the states have these next values.
func States(f string, next ...string) api.System {
	var text strings.Builder
	text.WriteString("type " + f + "\n")
	for x, v := range next {
		text.WriteString(strconv.Itoa(x) + " = " + v + "\n")
	}
	return System(text.String())
}

// Cycle returns a system of 2 * X in which so many states follow each other, the first one the last one. Only one has the output 1.
func Cycle(many, one int) api.System {
	next := make([]string, many)
	for x := range next {
		output := "0"
		if x == one {
			output = "1"
		}
		next[x] = "(" + output + ", " + strconv.Itoa((x+1)%many) + ")"
	}
	return States("2 * X", next...)
}
