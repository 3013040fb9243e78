package value

import (
	"math"
	"strconv"
	"strings"
	"testing"

	"ectype/api"
)

func TestString(t *testing.T) {
	for _, c := range []struct {
		f    string
		v    api.Value
		want string
	}{
		{"X", at(42), "42"},
		{"3", at(0), "0"},
		{"2 * X", list(at(1), at(10)), "(1, 10)"},
		{"1 + X", tree(0, at(0)), "l 0"},
		{"1 + X", tree(1, at(12)), "r 12"},
		{"X ^ 1", list(at(3)), "[3]"},
		{"X ^ 3", list(at(3), at(2), at(3)), "[3, 2, 3]"},
		{"P(X)", list(), "{}"},
		{"P(X)", list(at(5)), "{5}"},
		{"P(X)", list(at(5), at(6), at(50)), "{5, 6, 50}"},
		{"B(X)", list(), "{}"},
		{"B(X)", weighed(numbers(2, 1), at(5), at(6)), "{5 : 2, 6 : 1}"},
		{"B(X)", weighed(numbers(api.MaxWeight), at(5)), "{5 : 1048576}"},
		{"D(X)", weighed(numbers(1), at(5)), "{5 : 1}"},
		{"2 * D(X)", list(at(0), weighed(numbers(1, 2), at(1), at(2))), "(0, {1 : 1, 2 : 2})"},
		{"(1 + X) + X", tree(0, tree(1, at(3))), "l r 3"},
		{"P(1 + (X * X))", list(tree(0, at(0)), tree(1, list(at(1), at(2)))), "{l 0, r (1, 2)}"},
		{"B(P(X))", weighed(numbers(3, 4), list(), list(at(1), at(2))), "{{} : 3, {1, 2} : 4}"},
		{"D(B(X))", weighed(numbers(1, 2), list(), weighed(numbers(7), at(9))), "{{} : 1, {9 : 7} : 2}"},
		{"(X * 2) ^ 2", list(list(at(1), at(0)), list(at(2), at(1))), "[(1, 0), (2, 1)]"},
	} {
		if s, e := String(of(t, c.f), 100, c.v); e != api.OK || s != c.want {
			t.Errorf("%s: %v: %q %d, not %q", c.f, c.v, s, e, c.want)
		}
	}
}

func TestParse(t *testing.T) {
	for _, c := range []struct{ f, text, want string }{
		{"2 * D(X)", "(0,{2:4,1:1,1:1})", "(0, {1 : 1, 2 : 2})"},
		{"X", "2", "2"},
		{"X", "  2  ", "2"},
		{"2", "0", "0"},
		{"1 + X", "l0", "l 0"},
		{"1 + X", " r  2 ", "r 2"},
		{"(1 + X) + (2 + X)", "rl1", "r l 1"},
		{"X * X", "( 1 , 2 )", "(1, 2)"},
		{"X ^ 2", "[1,0]", "[1, 0]"},
		{"X ^ 2", " [ 1 , 0 ] ", "[1, 0]"},
		{"P(X)", "{}", "{}"},
		{"P(X)", " { } ", "{}"},
		{"P(X)", "{2,0,2,1,0}", "{0, 1, 2}"},
		{"B(X)", "{}", "{}"},
		{"B(X)", "{2:1,0:5,2:10}", "{0 : 5, 2 : 11}"},
		{"B(X)", "{ 2 : 1 , 0 : 6 }", "{0 : 6, 2 : 1}"},
		{"D(X)", "{2:10}", "{2 : 1}"},
		{"P(P(X))", "{{1,0},{0,1},{}}", "{{}, {0, 1}}"},
		{"B(P(X))", "{{1,1}:2,{1}:3}", "{{1} : 5}"},
		{"P(X * (1 + X))", "{(1,l 0),(0,r 2),(0,l0)}", "{(0, l 0), (0, r 2), (1, l 0)}"},
	} {
		f := of(t, c.f)
		v, e := Parse(f, 3, c.text)
		if s, g := String(f, 3, v); e != api.OK || g != api.OK || s != c.want {
			t.Errorf("%s: %q: %q %d, not %q", c.f, c.text, s, e, c.want)
		}
	}
}

// refuse checks that Parse returns the error and the zero value.
func refuse(t *testing.T, want api.Errno, f string, n int, texts ...string) {
	t.Helper()
	for _, s := range texts {
		if v, e := Parse(of(t, f), n, s); e != want || !isZero(v) {
			t.Errorf("%s over %d: %.40q: %v %d, not error %d", f, n, s, v, e, want)
		}
	}
}

func TestTextsThatAreNoValues(t *testing.T) {
	// numbers
	refuse(t, api.ErrText, "X", 3, "", " ", "x", "00", "01", "-1", "+1", "-0", "1.0", "1 2", "1,", "(1)", "{1}", "[1]", "l 1", "0x1", "1_0", "1e0", "١", "1\t", "\t1", "1\n", "\n1", "1\x00", "\x00", "1\u00a0", "1;", ".")
	refuse(t, api.ErrText, "3", 3, "", "00", "-1", "l", "X", "{}", "()")
	// pairs
	refuse(t, api.ErrText, "X * X", 3, "", "(", ")", "()", "(1", "(1)", "(1,", "(1,)", "(,1)", "(1 2)", "(1,2", "(1,2,", "(1,2,0)", "(1,2))", "((1,2)", "1,2", "[1,2]", "{1,2}", "(1;2)", "(1:2)", "(1,2)x", "(1,2)(1,2)")
	// sums
	refuse(t, api.ErrText, "1 + X", 3, "", "l", "r", "0", "1", "s 1", "L 0", "l l 0", "l 0 0", "r", "r 1 l 0", "(l 0)", "0 l", "lr 0", "left 0")
	// inputs
	refuse(t, api.ErrText, "X ^ 2", 3, "", "[", "]", "[1", "[1,", "[1,2", "[1,]", "[,1]", "[1 2]", "[1,2}", "[1,,2]", "[1,2,]", "[1,2]]", "{1,2}", "(1,2)", "1,2", "[1:1,2:1]")
	// sets
	refuse(t, api.ErrText, "P(X)", 3, "", "{", "}", "{1", "{1,", "{1,2", "{1,}", "{,1}", "{,}", "{1 2}", "{1,2]", "{1,,2}", "{1}}", "{{1}}", "[1,2]", "(1,2)", "1", "{1:1}", "{1 : 1, 2}")
	// weights
	for _, f := range []string{"B(X)", "D(X)"} {
		refuse(t, api.ErrText, f, 3, "", "{", "}", "{1", "{1}", "{1:", "{1:}", "{:1}", "{1:1", "{1:1,", "{1:1,}", "{1:1,2}", "{1,2:1}", "{,1:1}", "{1:1 2:1}", "{1 1}", "{1::1}", "{1:1:1}", "{1:01}", "{1:00}", "{1:-1}", "{1:+1}", "{01:1}", "{1:1.0}", "{1:x}", "{1:{}}", "{1:1}1", "1:1", "[1:1]", "{1=1}")
	}
	// parts
	refuse(t, api.ErrText, "P(2 * X)", 3, "{0}", "{(0,0),1}", "{(0,{})}", "{(0,0)(1,1)}", "(0,{0})")
}

func TestTextsOfInvalidValues(t *testing.T) {
	wrap := "18446744073709551617"
	refuse(t, api.ErrValue, "X", 3, "3", "100", wrap, "9223372036854775807", "9223372036854775808", strings.Repeat("9", api.MaxText))
	refuse(t, api.ErrValue, "X", 0, "0")
	refuse(t, api.ErrValue, "3", 3, "3", wrap, "4294967296")
	refuse(t, api.ErrValue, "1 + X", 3, "l 1", "r 3")
	refuse(t, api.ErrValue, "X * 2", 3, "(3, 0)", "(0, 2)")
	refuse(t, api.ErrValue, "X ^ 2", 3, "[0, 3]", "[]", "[0]", "[0, 1, 2]", "[0, 0, 0, 0]")
	refuse(t, api.ErrValue, "P(X)", 3, "{3}", "{0, 1, 3}")
	refuse(t, api.ErrValue, "B(X)", 3, "{3 : 1}", "{0 : 0}", "{0 : 1, 1 : 0}", "{0 : 1048577}", "{0 : 1048576, 1 : 1}", "{0 : 1, 0 : 1048576}", "{0 : "+wrap+"}", "{0 : 9223372036854775807, 1 : 9223372036854775807, 2 : 4}")
	refuse(t, api.ErrValue, "D(X)", 3, "{}", "{3 : 1}", "{0 : 0}", "{0 : 1048576, 1 : 1048576}", "{0 : 4294967297}", "{0 : "+wrap+"}")
	refuse(t, api.ErrValue, "2 * D(X)", 3, "(0, {3 : 1})", "(0, {})", "(2, {1 : 1})")
	refuse(t, api.ErrValue, "P(X)", 3, "{"+strings.Repeat("0,", api.MaxNodes-1)+"0}")
}

// pairsText returns the string of a set of so many different pairs.
func pairsText(n int) string {
	var l []string
	for i := range n {
		l = append(l, "("+strconv.Itoa(i/10)+","+strconv.Itoa(i%10)+")")
	}
	return "{" + strings.Join(l, ",") + "}"
}

func TestWhichErrorOfParse(t *testing.T) {
	refuse(t, api.ErrText, "P(X)", 3, "{3", "{3}}", "{03, 4}", strings.Repeat("{", api.MaxText), strings.Repeat(" ", api.MaxText), pairsText(101))
	refuse(t, api.ErrText, "P(X * X)", 100, pairsText(101)+"}", pairsText(101)+"0")
	refuse(t, api.ErrValue, "P(X * X)", 9, pairsText(101))
	refuse(t, api.ErrLarge, "P(X * X)", 100, pairsText(101))
	refuse(t, api.ErrLarge, "X", 3, strings.Repeat("1", api.MaxText+1), strings.Repeat(" ", api.MaxText)+"1", strings.Repeat("?", 2*api.MaxText))
	refuse(t, api.ErrArg, "X", -1, "?", strings.Repeat("?", api.MaxText+1))
	refuse(t, api.ErrArg, "X", api.MaxStates+1, "0", "?")
	if v, e := Parse(api.Functor{Kind: -1}, -1, "?"); e != api.ErrFunctor || !isZero(v) {
		t.Errorf("invalid functor: %v %d", v, e)
	}
	refuse(t, api.ErrArg, "X", math.MinInt, "0")
	refuse(t, api.ErrArg, "X", math.MaxInt, "0")
}

func TestLongestTexts(t *testing.T) {
	f := of(t, "P(X)")
	for _, s := range []string{
		"{99" + strings.Repeat(" ", api.MaxText-4) + "}",
		"{99}" + strings.Repeat(" ", api.MaxText-4),
		strings.Repeat(" ", api.MaxText-4) + "{99}",
		"{" + strings.Repeat("99,", api.MaxNodes-2) + "99" + "}",
	} {
		if v, e := Parse(f, 100, s); e != api.OK || !same(v, list(at(99))) {
			t.Errorf("%.10q with %d bytes: %v %d", s, len(s), v, e)
		}
	}
	if v, e := Parse(of(t, "P(X * X)"), 100, pairsText(100)); e != api.OK || len(v.Args) != 100 {
		t.Errorf("100 pairs: %v %d", v, e)
	}
}

// spread returns the text with blanks before and after each token.
func spread(s string) string {
	var b strings.Builder
	for i := range len(s) {
		b.WriteByte(s[i])
		if !isNumber(s[i]) || i+1 < len(s) && !isNumber(s[i+1]) {
			b.WriteString("  ")
		}
	}
	return " " + b.String()
}

func isNumber(b byte) bool { return strings.IndexByte("0123456789", b) >= 0 }

func TestParseOfString(t *testing.T) {
	for _, s := range strings.Split(deep, ";") {
		f := of(t, s)
		for _, u := range valid(f, 2) {
			v, _ := Normal(f, 2, u)
			text, e := String(f, 2, v)
			if e != api.OK {
				t.Errorf("%s: String of %v: %d", s, v, e)
			}
			for _, text := range []string{text, spread(text), strings.ReplaceAll(text, " ", "")} {
				if w, e := Parse(f, 2, text); e != api.OK || !same(v, w) {
					t.Errorf("%s: %q: %v %d, not %v", s, text, w, e, v)
				}
			}
		}
	}
	f := of(t, gridType)
	s, _ := String(f, 100, grid(0))
	if v, e := Parse(f, 100, s); e != api.OK || !same(v, grid(0)) {
		t.Errorf("the grid: %d", e)
	}
}
