package sample

import (
	"reflect"
	"strconv"
	"testing"
)

func TestReplaced(t *testing.T) {
	for text, want := range map[string]string{
		"#3":                     "3.0",
		"<#0>":                   "<0.1>",
		"<[<[#1, #12]>, #0]>":    "<[<[1.2, 12.2]>, 0.1]>",
		"<(1, {#0 : 1})>":        "<(1, {0.1 : 1})>",
		"<{<{}>, <{#2}>, #007}>": "<{<{}>, <{2.2}>, 7.1}>",
	} {
		got := Replaced(text, func(k, around int) string { return strconv.Itoa(k) + "." + strconv.Itoa(around) })
		if got != want {
			t.Errorf("%s: %s, not %s", text, got, want)
		}
	}
}

func TestNextTexts(t *testing.T) {
	next, first := NextTexts("<(0, {<(1, {#0 : 1})> : 1, <(1, {#0 : 1})> : 2})>")
	if !reflect.DeepEqual(next, []string{"(0, {1 : 1, 2 : 2})", "(1, {1 : 1})", "(1, {2 : 1})"}) || !reflect.DeepEqual(first, []int{0}) {
		t.Errorf("%q %v", next, first)
	}
	next, first = NextTexts("<[<[#1, #2]>, #0]>", "<[#3, #2]>", "<[<[<[#1, #3]>, #4]>, #1]>")
	if !reflect.DeepEqual(next, []string{"[1, 0]", "[0, 0]", "[3, 2]", "[4, 0]", "[5, 3]", "[4, 0]"}) || !reflect.DeepEqual(first, []int{0, 2, 3}) {
		t.Errorf("%q %v", next, first)
	}
}
