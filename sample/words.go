package sample

import (
	"strconv"
	"strings"
)

// Replaced returns the string of a term with others in the place of its variables: what by returns for the number of a variable, and the number of recursions around it.
func Replaced(text string, by func(k, around int) string) string {
	var s strings.Builder
	around := 0
	for i := 0; i < len(text); i++ {
		switch text[i] {
		case '<':
			around++
		case '>':
			around--
		case '#':
			k, digits := variable(text[i:])
			s.WriteString(by(k, around))
			i += digits
			continue
		}
		s.WriteByte(text[i])
	}
	return s.String()
}

// variable returns the number of the variable that a text begins with, and how many digits it has.
func variable(text string) (k, digits int) {
	for digits+1 < len(text) && '0' <= text[digits+1] && text[digits+1] <= '9' {
		digits++
	}
	k, _ = strconv.Atoi(text[1 : digits+1])
	return k, digits
}

// NextTexts returns the strings of the next values in the system of the recursions with these strings, by its definition: states are written for terms.
// A variable that refers to nothing in its own recursion stands for one of the list, whose first states are returned, too.
func NextTexts(texts ...string) (next []string, first []int) {
	states := 0
	for _, text := range texts {
		first = append(first, states)
		states += strings.Count(text, "<")
	}
	for _, text := range texts {
		next = append(next, nextTexts(text, len(next), first)...)
	}
	return next, first
}

// nextTexts returns the strings of the next values of the recursions in one string, in which there are so many states before its own.
func nextTexts(text string, before int, outside []int) []string {
	var l []string
	var open []int
	write := func(s string) {
		if len(open) > 0 {
			l[open[len(open)-1]] += s
		}
	}
	for i := 0; i < len(text); i++ {
		switch text[i] {
		case '<':
			write(strconv.Itoa(before + len(l)))
			open = append(open, len(l))
			l = append(l, "")
		case '>':
			open = open[:len(open)-1]
		case '#':
			k, digits := variable(text[i:])
			if k < len(open) {
				write(strconv.Itoa(before + open[len(open)-1-k]))
			} else {
				write(strconv.Itoa(outside[k-len(open)]))
			}
			i += digits
		default:
			write(text[i : i+1])
		}
	}
	return l
}
