package functor

import (
	"strconv"
	"strings"
	"testing"

	"ectype/api"
)

func TestParse(t *testing.T) {
	big := strings.Repeat("0", 1000)
	for _, c := range []struct{ text, want string }{
		{"X", "X"},
		{"7", "7"},
		{"16", "16"},
		{"2*X^2", "2 * X ^ 2"},
		{"2+X", "2 + X"},
		{"1+(3*X)", "1 + (3 * X)"},
		{"(1+3)*X", "(1 + 3) * X"},
		{"X^1+X^4", "X ^ 1 + X ^ 4"},
		{"(X^2)^3", "(X ^ 2) ^ 3"},
		{"3^3", "3 ^ 3"},
		{"P(X)^2", "P(X) ^ 2"},
		{"P(X*X)*B(X+D(X*X))", "P(X * X) * B(X + D(X * X))"},
		// blanks
		{"  2  *  X  ^  2  ", "2 * X ^ 2"},
		{" P ( ( X ) ) ", "P(X)"},
		{"D (X)^ 1", "D(X) ^ 1"},
		// additional brackets
		{"((X))", "X"},
		{"(((1))+((3)*(X)))", "1 + (3 * X)"},
		{"(2)*((X)^2)", "2 * X ^ 2"},
		{"((2)*(X)^2)", "2 * X ^ 2"},
		{"P(((2*X)))", "P(2 * X)"},
		{"(((X^2)))^3", "(X ^ 2) ^ 3"},
		// numbers
		{"002*X^004", "2 * X ^ 4"},
		{big + "1", "1"},
		{"X^" + big + "3", "X ^ 3"},
	} {
		f, e := Parse(c.text)
		if s, _ := String(f); s != c.want || e != api.OK {
			t.Errorf("%.40q: %q %d, not %q", c.text, s, e, c.want)
		}
	}
	if f, e := Parse("(2*X)+P(X^3)"); e != api.OK || !Same(f, sum(prod(constant(2), id()), pow(exp(id(), 3)))) {
		t.Errorf("%v %d", f, e)
	}
}

// expect checks that Parse returns the error and the zero value.
func expect(t *testing.T, want api.Errno, texts ...string) {
	t.Helper()
	for _, s := range texts {
		if f, e := Parse(s); e != want || f.Kind != 0 || f.N != 0 || f.Args != nil {
			t.Errorf("%.40q: %v %d, not error %d", s, f, e, want)
		}
	}
}

func TestTextsThatAreNoFunctors(t *testing.T) {
	expect(t, api.ErrText,
		"", " ", "   ",
		// more than one operator
		"2*X*X", "1+3*X", "1*3+X", "X+X+X", "P(X*X*X)", "(X*X+X)", "X^2^2", "(X)^2^2", "X*X^2*X",
		// missing or additional parts
		"*", "X*", "*X", "X+", "+X", "^", "^2", "X^", "X**X", "X*+X", "X^^2", "2 3", "1X", "X2", "XX", "PX", "P X", "P", "P^2", "B*X", "PP(X)", "P(X)X", "P(X)(X)", "(X)(X)", "X(X)",
		// brackets
		"(", ")", "()", "P()", "(X", "X)", "((X)", "(X))", "P(X", "P(X))", "P X)", ")X(", "(X*)X",
		// the exponent
		"X^X", "X^(2)", "X^P(X)", "2^2^2", "X^-1", "X^ ", "X^2 2",
		// bytes of no token
		"x", "p(X)", "Y", "X,", "X*Y", "-1", "+1", "1.0", "X\t", "\tX", "X\n", "X\x00", "\x00", "X\x00X", "X^2\x00", "X * \xff", "X×X", "{X}", "[X]", "F(X)", "0x1", "1_0", "١", "X\u00a0",
	)
}

func TestTextsOfInvalidFunctors(t *testing.T) {
	expect(t, api.ErrFunctor,
		"0", "0 + X", "17", "000", "X^0", "X^5", "X^00", "P(0)", "X*0", "(17)^2",
		// values that wrap around to small ones, or exceed all integers
		"18446744073709551617", "X^18446744073709551618", "4294967297", "X^4294967298", "9223372036854775808",
		strings.Repeat("9", api.MaxText), "X^"+strings.Repeat("1", api.MaxText-2),
		// size
		strings.Repeat("P(", api.MaxHeight)+"X"+strings.Repeat(")", api.MaxHeight),
		strings.Repeat("P(", 13000)+"X"+strings.Repeat(")", 13000),
		"((X*X)*(X*X))*(((X*X)*(X*X))*((X*X)*(X*X)))",
	)
}

func TestWhichErrorOfParse(t *testing.T) {
	expect(t, api.ErrText, "0 + X +", "17 17", "X^0^0", "0 + x", "P(0", "X^9)", strings.Repeat("(", api.MaxText), strings.Repeat("P", api.MaxText), strings.Repeat(" ", api.MaxText))
	expect(t, api.ErrLarge, strings.Repeat("X", api.MaxText+1), strings.Repeat(" ", api.MaxText)+"X", strings.Repeat("0", api.MaxText+1), strings.Repeat("?", 2*api.MaxText), strings.Repeat("(", 1<<24))
}

func TestLongestTexts(t *testing.T) {
	half := api.MaxText/2 - 1
	for _, s := range []string{
		"X" + strings.Repeat(" ", api.MaxText-1),
		strings.Repeat(" ", api.MaxText-1) + "X",
		strings.Repeat("(", half) + " X" + strings.Repeat(")", half),
	} {
		if f, e := Parse(s); len(s) != api.MaxText || e != api.OK || !Same(f, id()) {
			t.Errorf("%.10q with %d bytes: %v %d", s, len(s), f, e)
		}
	}
}

// many returns all functors up to a depth whose numbers are the least or the greatest ones.
func many(depth int) []api.Functor {
	l := []api.Functor{id(), constant(1), constant(16)}
	if depth == 1 {
		return l
	}
	less := many(depth - 1)
	for _, f := range less {
		l = append(l, exp(f, 1), exp(f, 4), pow(f), bag(f), dist(f))
		for _, g := range less {
			l = append(l, prod(f, g), sum(f, g))
		}
	}
	return l
}

func TestParseOfString(t *testing.T) {
	l := append(many(3), nodes20(), chain(api.MaxHeight-1, id()))
	for n := range api.MaxConst {
		l = append(l, constant(n+1))
	}
	for n := range api.MaxInputs {
		l = append(l, exp(exp(constant(2), n+1), api.MaxInputs))
	}
	for _, f := range l {
		s, e := String(f)
		if e != api.OK {
			t.Fatalf("%v: error %d", f, e)
		}
		if g, d := Parse(s); d != api.OK || !Same(f, g) {
			t.Fatalf("%q is parsed as %v %d", s, g, d)
		}
	}
}

// TestParseOfAllShortTexts compares Parse with split on all texts of at most five bytes of tokens.
func TestParseOfAllShortTexts(t *testing.T) {
	const bytes = "X2PD()*+^"
	texts := []string{""}
	for range 5 {
		for _, s := range texts {
			compareWithSplit(t, s)
		}
		var longer []string
		for _, s := range texts {
			for _, b := range bytes {
				longer = append(longer, s+string(b))
			}
		}
		texts = longer
	}
	for _, s := range texts {
		compareWithSplit(t, s)
	}
}

func compareWithSplit(t *testing.T, s string) {
	t.Helper()
	want, ok := split(s)
	got, e := Parse(s)
	switch {
	case !ok && e != api.ErrText, ok && Check(want) != e, e == api.OK && !Same(want, got):
		t.Fatalf("%q: %v %d, not %v %v", s, got, e, want, ok)
	}
}

// split reads a text without blanks in another way than Parse: it looks for the operator outside of all brackets.
func split(s string) (api.Functor, bool) {
	at, ok := operatorOf(s, "*+")
	if !ok {
		return api.Functor{}, false
	}
	if at < 0 {
		return splitPower(s)
	}
	f, ok := splitPower(s[:at])
	g, okToo := splitPower(s[at+1:])
	if s[at] == '*' {
		return prod(f, g), ok && okToo
	}
	return sum(f, g), ok && okToo
}

func splitPower(s string) (api.Functor, bool) {
	at, ok := operatorOf(s, "^")
	if !ok {
		return api.Functor{}, false
	}
	if at < 0 {
		return splitFirst(s)
	}
	f, ok := splitFirst(s[:at])
	n, err := strconv.Atoi(s[at+1:])
	return exp(f, n), ok && err == nil && strings.Trim(s[at+1:], "0123456789") == ""
}

func splitFirst(s string) (api.Functor, bool) {
	if s == "X" {
		return id(), true
	}
	if n, err := strconv.Atoi(s); err == nil && strings.Trim(s, "0123456789") == "" {
		return constant(n), true
	}
	if len(s) < 2 || s[len(s)-1] != ')' {
		return api.Functor{}, false
	}
	if s[0] == '(' {
		return split(s[1 : len(s)-1])
	}
	kind, ok := map[byte]int{'P': api.FPow, 'B': api.FBag, 'D': api.FDist}[s[0]]
	if !ok || s[1] != '(' {
		return api.Functor{}, false
	}
	f, ok := split(s[2 : len(s)-1])
	return node(kind, 0, f), ok
}

// operatorOf returns where one of the operators is outside of all brackets, or -1; and whether there is at most one, and the brackets match.
func operatorOf(s, operators string) (int, bool) {
	at, open, ok := -1, 0, true
	for i := range len(s) {
		switch {
		case s[i] == '(':
			open++
		case s[i] == ')':
			open--
		case open == 0 && strings.IndexByte(operators, s[i]) >= 0:
			ok = ok && at < 0
			at = i
		}
		ok = ok && open >= 0
	}
	return at, ok && open == 0
}
