package system

import (
	"fmt"
	"strings"
	"testing"

	"ectype/api"
)

func TestString(t *testing.T) {
	f := typed(t, "2 * D(X)")
	for _, c := range []struct {
		s    api.System
		want string
	}{
		{api.System{}, "type X\n"},
		{api.System{Functor: f}, "type 2 * D(X)\n"},
		{api.System{Functor: f, Next: []api.Value{list(at(0), weighed([]int{1, 2}, at(1), at(2))), list(at(1), weighed([]int{1}, at(1))), list(at(1), weighed([]int{1}, at(2)))}}, coins},
		{api.System{Functor: typed(t, "1+(3*X)"), Next: []api.Value{{N: 1, Args: []api.Value{list(at(2), at(1))}}, {Args: []api.Value{at(0)}}}}, "type 1 + (3 * X)\n0 = r (2, 1)\n1 = l 0\n"},
		{api.System{Functor: typed(t, "X"), Next: times(12, at(11))}, "type X\n0 = 11\n1 = 11\n2 = 11\n3 = 11\n4 = 11\n5 = 11\n6 = 11\n7 = 11\n8 = 11\n9 = 11\n10 = 11\n11 = 11\n"},
	} {
		if s, e := String(c.s); e != api.OK || s != c.want {
			t.Errorf("%q %d, not %q", s, e, c.want)
		}
	}
	// There is no limit for strings that are printed.
	if s, e := String(crowd(t, 100, 195, 0)); e != api.OK || len(s) < api.MaxText {
		t.Errorf("a long string: %d bytes, error %d", len(s), e)
	}
}

func TestParse(t *testing.T) {
	for _, c := range []struct{ text, want string }{
		{coins, coins},
		{strings.TrimSuffix(coins, "\n"), coins},
		{"type X", "type X\n"},
		{"type X\n", "type X\n"},
		{"type ((X))", "type X\n"},
		{"type X\n0 = 0", "type X\n0 = 0\n"},
		{"  type   2*X ^2  \n  0=(1,[1,0])  \n  1  =  ( 0 , [ 0 , 0 ] )  \n", "type 2 * X ^ 2\n0 = (1, [1, 0])\n1 = (0, [0, 0])\n"},
		{"typeX\n0=0\n", "type X\n0 = 0\n"},
		{"type P(X)\n0 = {1,0,1}\n1 = {}", "type P(X)\n0 = {0, 1}\n1 = {}\n"},
		{"type B(X)\n0 = {1 : 3, 0 : 1, 1 : 2}\n1 = {}", "type B(X)\n0 = {0 : 1, 1 : 5}\n1 = {}\n"},
		{"type 2 * D(X)\n0 = (0,{2:4,1:1,1:1})\n1 = (1,{1:7})\n2 = (1,{2:5})", coins},
		{"type 1+X\n 0 = l0\n 1 = r 0", "type 1 + X\n0 = l 0\n1 = r 0\n"},
	} {
		s, e := Parse(c.text)
		if text, g := String(s); e != api.OK || g != api.OK || text != c.want {
			t.Errorf("%q: %q %d, not %q", c.text, text, e, c.want)
		}
	}
}

// refuse checks that Parse returns the error and the zero value.
func refuse(t *testing.T, want api.Errno, texts ...string) {
	t.Helper()
	for _, text := range texts {
		if s, e := Parse(text); e != want || !isZero(s) {
			t.Errorf("%.60q: %v %d, not error %d", text, s, e, want)
		}
	}
}

func TestTextsThatAreNoSystems(t *testing.T) {
	// the first line
	refuse(t, api.ErrText, "", " ", "\n", "X", "X\n", "type", "type ", "type\n", "typ X", "types X", "Type X", "ty pe X", "type type X", "type = X", "0 = 0", "\ntype X", "type\nX", "type X Y", "type X x", "type 2 * X * X", "type X;", "type X;0 = 0", "\ttype X", "type\tX", "type X\t", "type X\r", "type X\r\n0 = 0\r\n", "type \x00X", "type\u00a0X", "type -1", "type P X", "type (X", "\ufefftype X")
	// lines that are missing, empty or in the wrong place
	refuse(t, api.ErrText, "type X\n\n", "type X\n\n0 = 0", "type X\n0 = 0\n\n", "type X\n0 = 0\n\n1 = 0\n", "type X\n \n", "type X\n0 = 0\n ", "type X\ntype X", "type X\n0 = 0 1 = 0", "type X 0 = 0", "type X\n0 =\n0", "type X\n0 = 0\n1 = 0\n1 = 0", "type X\n1 = 0", "type X\n1 = 0\n0 = 0", "type X\n0 = 0\n2 = 0", "type X\n0 = 0\n0 = 0", "type X\n-1 = 0")
	// numbers of states
	refuse(t, api.ErrText, "type X\n= 0", "type X\n00 = 0", "type X\n+0 = 0", "type X\n-0 = 0", "type X\n0", "type X\n0 0", "type X\n0 == 0", "type X\n0 : 0", "type X\n0 0 = 0", "type X\nx = 0", "type X\n(0) = 0", "type X\n0 = 0\n01 = 0", "type X\n\t0 = 0", "type X\n0\t= 0", "type X\n0x = 0", "type X\n٠ = 0")
	eleven := "type 1\n0=0\n1=0\n2=0\n3=0\n4=0\n5=0\n6=0\n7=0\n8=0\n9=0\n"
	refuse(t, api.ErrText, eleven+"1 0 = 0", eleven+"1=0", eleven+"010 = 0", eleven+"100 = 0")
	if s := of(t, eleven+"10 = 0"); len(s.Next) != 11 {
		t.Errorf("%v", s)
	}
	// values
	refuse(t, api.ErrText, "type X\n0 = ", "type X\n0 = x", "type X\n0 = -1", "type X\n0 = 00", "type X\n0 = 0 0", "type X\n0 = {0}", "type X\n0 = 0;", "type X\n0 = \t0", "type X\n0 = 0\r\n", "type P(X)\n0 = 0", "type P(X)\n0 = {0", "type P(X)\n0 = {\n0}", "type D(X)\n0 = {0}", "type X * X\n0 = (0)", "type 1 + X\n0 = 0")
}

func TestTextsOfInvalidSystems(t *testing.T) {
	// functors, whose values are not looked at
	refuse(t, api.ErrSystem, "type 0", "type 17", "type X ^ 5", "type X ^ 0", "type P(P(P(P(P(P(P(P(X))))))))", "type 0\n", "type 0\n0 = 0", "type 0\n0 = ?", "type 0\n0 =", "type 0\n0 = 0\n1 = {{", "type 18446744073709551617\n0 = 0")
	// values
	refuse(t, api.ErrSystem, "type X\n0 = 1", "type X\n0 = 2\n1 = 0", "type X\n0 = 18446744073709551616", "type 2\n0 = 2", "type D(X)\n0 = {}", "type B(X)\n0 = {0 : 0}", "type B(X)\n0 = {0 : 1048577}", "type P(X)\n0 = {0, 1}", "type X ^ 2\n0 = [0]")
}

// lined returns a text with so many states, whose lines have the same value.
func lined(f string, states int, value string) string {
	var text strings.Builder
	text.WriteString("type " + f + "\n")
	for x := range states {
		text.WriteString(fmt.Sprint(x, "=", value, "\n"))
	}
	return text.String()
}

// tall returns the string of a value of (((((1 + 1) + 1) + 1) ^ 4) ^ 4) ^ 4 with 277 nodes.
func tall() string {
	v := "lll0"
	for range 3 {
		v = "[" + strings.Join(times(4, v), ",") + "]"
	}
	return v
}

const tallType = "(((((1 + 1) + 1) + 1) ^ 4) ^ 4) ^ 4"

// pairs returns the string of a set of so many pairs of states below 11.
func pairs(n int) string {
	var l []string
	for i := range n {
		l = append(l, fmt.Sprintf("(%d,%d)", i/11, i%11))
	}
	return "{" + strings.Join(l, ",") + "}"
}

func TestLimitsOfParse(t *testing.T) {
	for _, text := range []string{
		lined("X", api.MaxStates, "99"),
		lined(tallType, 72, tall()),
		lined("P(X * X)", 11, pairs(100)),
		"type X\n0 = " + strings.Repeat(" ", api.MaxText-len("type X\n0 = 0")) + "0",
		strings.Repeat(" ", api.MaxText-len("type X\n0 = 0")) + "type X\n0 = 0",
	} {
		if s, e := Parse(text); e != api.OK || Check(s) != api.OK {
			t.Errorf("%.60q: %d", text, e)
		}
	}
	refuse(t, api.ErrSystem, lined("X", api.MaxStates+1, "0"), lined("X", 5000, "0"), lined(tallType, 73, tall()), lined("P(X * X)", 11, pairs(101)))
	refuse(t, api.ErrLarge, "type X"+strings.Repeat(" ", api.MaxText), strings.Repeat("?", api.MaxText+1), "type X\n0 = 0"+strings.Repeat("\n", api.MaxText))
	if s, e := Parse("type X" + strings.Repeat(" ", api.MaxText-len("type X"))); e != api.OK || len(s.Next) != 0 {
		t.Errorf("a long line: %v %d", s, e)
	}
}

// TestWhichErrorOfParse checks that a text that is no string of a system is reported before one of an invalid system, in any order of the lines.
func TestWhichErrorOfParse(t *testing.T) {
	refuse(t, api.ErrText,
		"type X\n0 = 9\n1 = x", "type X\n0 = 9\n2 = 0", "type X\n0 = x\n1 = 9", "type X\n0 = 9\n\n",
		"type 0\n0 = 0\n2 = 0", "type 0\n1 = 0", "type 0\n0 0", "type 0\n\n", "type 0 0\n", "type 0 * 0 * 0",
		lined("X", 101, "0")+"102 = 0", lined("X", 101, "0")+"101", lined("X", 101, "0")+"\n", lined("?", 101, "0"),
		lined("P(X * X)", 11, pairs(101))+"11 = {", lined(tallType, 73, tall())+"73 = ll",
		strings.Repeat("\n", api.MaxText), strings.Repeat(" ", api.MaxText), strings.Repeat("?", api.MaxText))
	// Values are not looked at if there are too many states.
	refuse(t, api.ErrSystem, lined("X", 101, "?"), lined("X", 101, ""), lined("0", 101, "{"), lined("X", 100, "0")+"100=")
	refuse(t, api.ErrText, lined("X", 100, "?"), lined("X", 99, "0")+"99=")
}

// TestParseOfString checks that Parse of String returns the system, for all small ones.
func TestParseOfString(t *testing.T) {
	for f, n := range small() {
		for m := range n + 1 {
			for _, s := range all(t, f, m) {
				text, e := String(s)
				if u, g := Parse(text); e != api.OK || g != api.OK || !Same(s, u) {
					t.Fatalf("%v: %q %d: %v %d", s, text, e, u, g)
				}
			}
		}
	}
	if s := of(t, lined(tallType, 72, tall())); len(s.Next) != 72 || nodes(s.Next) != 72*277 {
		t.Errorf("%d states with %d nodes", len(s.Next), nodes(s.Next))
	}
}
