package scan

import (
	"math"
	"strings"
	"testing"
)

func word(r *Reader) string   { return r.Word() }
func numberOf(r *Reader) int  { return r.Number() }
func paddedOf(r *Reader) int  { return r.Padded() }
func bracket(r *Reader) byte  { r.Take('('); return '(' }
func nothing(r *Reader) byte  { return 'x' }
func pair(r *Reader) [2]int   { return [2]int{r.Number(), r.Number()} }
func named(r *Reader) wordAnd { return wordAnd{r.Word(), r.Number()} }

type wordAnd struct {
	word   string
	number int
}

// check reads a text and compares what becomes of it; the zero value and false stand for a text that is refused.
func check[R comparable](t *testing.T, text string, read func(*Reader) R, want R, ok bool) {
	t.Helper()
	if got, is := All(text, read); got != want || is != ok {
		t.Errorf("%.40q: %v %v, not %v %v", text, got, is, want, ok)
	}
}

func TestWord(t *testing.T) {
	check(t, "top", word, "top", true)
	check(t, "  aZbY  ", word, "aZbY", true)
	for _, text := range []string{"", "  ", "1", "(", "a b", "a1", "a(", "é", "aé", "a\x00", "[", "@", "`", "{", "\ta"} {
		check(t, text, word, "", false)
	}
}

func TestNumber(t *testing.T) {
	for _, read := range []func(*Reader) int{numberOf, paddedOf} {
		check(t, "0", read, 0, true)
		check(t, " 1907 ", read, 1907, true)
		check(t, "9223372036854775807", read, math.MaxInt, true)
		check(t, "9223372036854775808", read, math.MaxInt, true)
		check(t, "18446744073709551617", read, math.MaxInt, true)
		check(t, strings.Repeat("9", 40000), read, math.MaxInt, true)
		for _, text := range []string{"", " ", "a", "-1", "+1", "1 2", "1.0", "1a", "/", ":", "1_0", "0x1", "١"} {
			check(t, text, read, 0, false)
		}
	}
	for _, text := range []string{"00", "01", "007"} {
		check(t, text, numberOf, 0, false)
	}
	check(t, "00", paddedOf, 0, true)
	check(t, strings.Repeat("0", 40000)+"7", paddedOf, 7, true)
}

func TestTake(t *testing.T) {
	check(t, " ( ", bracket, '(', true)
	check(t, "", nothing, 'x', true)
	check(t, "   ", nothing, 'x', true)
	for _, text := range []string{"", ")", "((", "()"} {
		check(t, text, bracket, 0, false)
	}
	check(t, "(", nothing, 0, false)
}

func TestTokensNextToEachOther(t *testing.T) {
	check(t, "is1", named, wordAnd{"is", 1}, true)
	check(t, "  is  1  ", named, wordAnd{"is", 1}, true)
	check(t, "1 2", pair, [2]int{1, 2}, true)
	check(t, "12", pair, [2]int{}, false)
	check(t, "0 1", pair, [2]int{0, 1}, true)
	check(t, "01", pair, [2]int{}, false)
}

func TestPeek(t *testing.T) {
	r := &Reader{text: "  a  "}
	if a, b := r.Peek(), r.Peek(); a != 'a' || b != 'a' {
		t.Errorf("%q, then %q", a, b)
	}
	r.Take('a')
	if a, b := r.Peek(), r.Peek(); a != End || b != End {
		t.Errorf("%q, then %q", a, b)
	}
}

func TestPanicsAreRecovered(t *testing.T) {
	check(t, "a", func(r *Reader) string { return r.Word() + []string{}[len(r.text)] }, "", false)
}
