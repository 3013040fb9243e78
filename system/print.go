package system

import (
	"strconv"
	"strings"

	"ectype/api"
	"ectype/functor"
	"ectype/value"
)

// String returns the string of s.
func String(s api.System) (string, api.Errno) {
	if Check(s) != api.OK {
		return "", api.ErrSystem
	}
	var text strings.Builder
	head, _ := functor.String(s.Functor)
	text.WriteString("type " + head + "\n")
	for x, v := range s.Next {
		next, _ := value.String(s.Functor, len(s.Next), v)
		text.WriteString(strconv.Itoa(x) + " = " + next + "\n")
	}
	return text.String(), api.OK
}
