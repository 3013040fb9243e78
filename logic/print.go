package logic

import (
	"strconv"
	"strings"

	"ectype/api"
)

// String returns the string of a.
func String(f api.Functor, a api.Formula) (string, api.Errno) {
	if e := Check(f, a); e != api.OK {
		return "", e
	}
	var text strings.Builder
	write(&text, a)
	return text.String(), api.OK
}

// write appends the string of a to the text.
func write(text *strings.Builder, a api.Formula) {
	o := operators[a.Op]
	if a.Op == api.LAnd {
		text.WriteString("(")
		write(text, a.Args[0])
		text.WriteString(" " + o.word + " ")
		write(text, a.Args[1])
		text.WriteString(")")
		return
	}
	text.WriteString(o.word)
	if o.numbers > 0 {
		text.WriteString(" " + strconv.Itoa(a.N))
	}
	if o.numbers > 1 {
		text.WriteString(" / " + strconv.Itoa(a.M))
	}
	for _, b := range a.Args {
		text.WriteString(" ")
		write(text, b)
	}
}
