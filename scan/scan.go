// Package scan reads texts token by token. The parsers of the layers are made of its parts.
package scan

import (
	"strconv"

	"ectype/api"
)

// End stands for the end of a text: no token begins with a blank.
const End = ' '

// Reader reads a text from the position at. Its methods skip blanks before a token, and panic if another one comes next.
type Reader struct {
	text string
	at   int
}

// All returns what read makes of a text, or false if read panics or leaves a part of the text.
func All[R any](text string, read func(*Reader) R) (result R, ok bool) {
	defer func() {
		if recover() != nil {
			var none R
			result, ok = none, false
		}
	}()
	r := &Reader{text: text}
	result = read(r)
	r.Take(End)
	return result, true
}

// Peek skips blanks and returns the byte that comes next, or End.
func (r *Reader) Peek() byte {
	for r.at < len(r.text) && r.text[r.at] == ' ' {
		r.at++
	}
	if r.at == len(r.text) {
		return End
	}
	return r.text[r.at]
}

// Take reads a token of one byte, or the end.
func (r *Reader) Take(token byte) {
	if r.Peek() != token {
		panic(api.ErrText)
	}
	r.at++
}

// Number reads a number without leading zeros. One that is greater than the greatest int counts as that.
func (r *Reader) Number() int {
	digits := r.run(isDigit)
	if digits[0] == '0' && len(digits) > 1 {
		panic(api.ErrText)
	}
	return number(digits)
}

// Padded reads a number that may have leading zeros. One that is greater than the greatest int counts as that.
func (r *Reader) Padded() int {
	return number(r.run(isDigit))
}

// Word reads a word of letters, up to a byte that is none.
func (r *Reader) Word() string {
	return r.run(isLetter)
}

// run reads at least one byte, and all that follow, of those that are asked for.
func (r *Reader) run(isPart func(byte) bool) string {
	if !isPart(r.Peek()) {
		panic(api.ErrText)
	}
	first := r.at
	for r.at < len(r.text) && isPart(r.text[r.at]) {
		r.at++
	}
	return r.text[first:r.at]
}

// number returns the number of some digits. Next to its error, Atoi returns the greatest int for a greater number.
func number(digits string) int {
	n, _ := strconv.Atoi(digits)
	return n
}

func isDigit(b byte) bool {
	return '0' <= b && b <= '9'
}

func isLetter(b byte) bool {
	return 'a' <= b && b <= 'z' || 'A' <= b && b <= 'Z'
}
