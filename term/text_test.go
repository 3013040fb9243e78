package term

import (
	"fmt"
	"strings"
	"testing"

	"ectype/api"
	"ectype/sample"
)

func TestString(t *testing.T) {
	for _, c := range known {
		if s, e := String(typed(c.f), rec(c.p)); e != api.OK || s != "<"+c.text+">" {
			t.Errorf("%s: %q %d, not <%s>", c.f, s, e, c.text)
		}
	}
}

func TestParse(t *testing.T) {
	for _, c := range known {
		for _, text := range []string{c.text, strings.ReplaceAll(c.text, " ", ""), spread(c.text)} {
			x, e := Parse(typed(c.f), "<"+text+">")
			if e != api.OK || !Same(x, rec(c.p)) {
				t.Errorf("%s: %q: %s %d", c.f, text, short(x), e)
			}
		}
	}
	for _, c := range []struct{ f, text, want string }{
		{"2 * D(X)", "<( 1, {#0:1} )>", "<(1, {#0 : 1})>"},
		{"X", "  < # 0 >  ", "<#0>"},
		{"X", "<<<#  2> > >", "<<<#2>>>"},
		{"X", nested(100, "#99"), nested(100, "#99")},
		{"1 + X", "<l0>", "<l 0>"},
		{"1 + X", "<r#0>", "<r #0>"},
		{"1 + X", "<r<r<l0>>>", "<r <r <l 0>>>"},
		{"(1 + X) + X", "<lr#0>", "<l r #0>"},
		{"P(X)", "<{#0,#0,<{#1,#0}>,#0}>", "<{#0, #0, <{#1, #0}>, #0}>"},
		{"P(2 * X)", "<{(1,#0),(0,#0)}>", "<{(1, #0), (0, #0)}>"},
		{"B(X)", "<{#0:2,#0:2}>", "<{#0 : 2, #0 : 2}>"},
		{"D(X)", "<{ # 0 : 10 , # 0 : 5 }>", "<{#0 : 10, #0 : 5}>"},
		{"P(P(X))", "<{{},{#0},{}}>", "<{{}, {#0}, {}}>"},
	} {
		x, e := Parse(typed(c.f), c.text)
		if e != api.OK || words(typed(c.f), x) != c.want {
			t.Errorf("%s: %q: %s %d, not %s", c.f, c.text, short(x), e, c.want)
		}
	}
}

// spread returns the text with blanks before and after each token; none of its numbers has two digits.
func spread(text string) string {
	var s strings.Builder
	for i := range len(text) {
		s.WriteString(text[i : i+1])
		if i+1 == len(text) || !isDigit(text[i]) || !isDigit(text[i+1]) {
			s.WriteString("  ")
		}
	}
	return " " + s.String()
}

func isDigit(b byte) bool { return '0' <= b && b <= '9' }

// refuse checks that Parse returns the error and the zero value.
func refuse(t *testing.T, want api.Errno, f string, texts ...string) {
	t.Helper()
	for _, s := range texts {
		if x, e := Parse(typed(f), s); e != want || !isZero(x) {
			t.Errorf("%s: %.60q with %d bytes: %s, error %d, not %d", f, s, len(s), short(x), e, want)
		}
	}
}

func TestTextsThatAreNoTerms(t *testing.T) {
	refuse(t, api.ErrText, "X", "", " ", "#", "# ", "0", "<", ">", "<>", "<#>", "<#0", "#0>", "<#0>>", "<<#0>", "><", "<#0#0>", "<#0 #0>", "<#0, #0>", "<0>", "<(#0)>", "(<#0>)", "<#0><#0>", "#0#0", "##0", "<##0>",
		"#00", "<#00>", "<#01>", "<#-1>", "<#+1>", "<#1.0>", "<#0x0>", "<#1 0>", "<#x>", "<x>", "<{#0}>", "<l #0>", "<#0\n>", "\t<#0>", "<#0>\x00", "<#٠>", "[#0]", "#0:1", "X", "<X>", "<#0;>", "<#\u00a00>")
	refuse(t, api.ErrText, "3", "<>", "1", "<#0>", "<01>", "<-1>", "<1 1>", "<<1>>", "<(1)>", "<1,>")
	refuse(t, api.ErrText, "2 * X", "<1, #0>", "<(1 #0)>", "<(1, #0>", "<1, #0)>", "<(1)>", "<()>", "<(1,)>", "<(,#0)>", "<(1, #0, #0)>", "<(#0, 1)>", "<(1, 1)>", "<[1, #0]>", "<{1, #0}>", "(1, #0)", "<(1, <#0>)>", "<(1, <(1, 0)>)>")
	refuse(t, api.ErrText, "1 + X", "<l>", "<r>", "<l #0>", "<r 0>", "<0>", "<#0>", "<s 0>", "<L 0>", "<l l 0>", "<left 0>", "<l 0 0>", "l <0>", "<r <0>>", "<r <#0>>")
	refuse(t, api.ErrText, "P(X)", "<{>", "<}>", "<{#0>", "<#0}>", "<{#0,}>", "<{,#0}>", "<{,}>", "<{#0 #0}>", "<{#0 : 1}>", "<[#0]>", "<#0>", "<{0}>", "<{{}}>", "{}", "<{#0, , #0}>", "<{<#0>}>", "<{<{>}}>")
	for _, f := range []string{"B(X)", "D(X)"} {
		refuse(t, api.ErrText, f, "<{#0}>", "<{#0 : }>", "<{: 1}>", "<{#0 : 1,}>", "<{#0 : 01}>", "<{#0 : -1}>", "<{#0 : #0}>", "<{#0 :: 1}>", "<{#0 1}>", "<{#0, #0 : 1}>", "<{#0 : 1, #0}>", "<{#0 : 1 : 1}>", "<#0 : 1>", "<{1 : #0}>", "<{<#0 : 1>}>", "<{<{#0}> : 1}>")
	}
}

// TestNumbersOfInputs checks that lists of inputs, unlike collections, have a fixed length in all strings of terms.
func TestNumbersOfInputs(t *testing.T) {
	refuse(t, api.ErrText, "X ^ 2", "<[]>", "<[#0]>", "<[#0, #0, #0]>", "<[#0, #0, #0, #0, #0]>", "<[#0, #0}>", "<{#0, #0}>", "<#0, #0>", "<[#0 #0]>", "<[#0, #0,]>", "<[#0 : 1, #0 : 1]>", "<[#0, <[#0]>]>", "<[<[]>, #0]>", "<[#7]>")
	refuse(t, api.ErrText, "X ^ 1", "<[]>", "<[#0, #0]>", "<#0>")
	refuse(t, api.ErrText, "P((2 ^ 3) ^ 1)", "<{[[0, 0, 0]], [[0, 0]]}>", "<{[[0, 0, 0], [0, 0, 0]]}>", "<{[]}>")
	refuse(t, api.ErrTerm, "P((2 ^ 3) ^ 1)", "<{[[0, 0, 2]], [[0, 0, 0]]}>")
	refuse(t, api.ErrTerm, "X ^ 2", "<[#1, #0]>", "<[#0, <[#0, #2]>]>")
}

func TestTextsOfInvalidTerms(t *testing.T) {
	wrap := "18446744073709551616"
	refuse(t, api.ErrTerm, "X", "#0", " # 7 ", "<#1>", "<<#2>>", "<#4294967296>", "<#"+wrap+">", "<#9223372036854775807>", "<#9223372036854775808>", "#"+strings.Repeat("9", api.MaxText-1), nested(100, "#100"), nested(101, "#0"), nested(19999, "#0"))
	refuse(t, api.ErrTerm, "3", "#0", "<3>", "<4294967296>", "<"+wrap+">", "<9223372036854775807>")
	refuse(t, api.ErrTerm, "2 * X", "#0", "<(2, #0)>", "<(1, #1)>", "<(1, <(0, #2)>)>", "<(1, <(2, #0)>)>")
	refuse(t, api.ErrTerm, "1 + X", "<l 1>", "<r #1>", "<r <l 1>>", "<r <r #2>>")
	refuse(t, api.ErrTerm, "P(X)", "#1", "<{#1}>", "<{#0, <{#2}>}>", "<{"+strings.Repeat("#0,", 999)+"#0}>", "<{"+strings.Repeat("<{}>,", 700)+"#0}>")
	for _, f := range []string{"B(X)", "D(X)"} {
		refuse(t, api.ErrTerm, f, "<{#1 : 1}>", "<{#0 : 0}>", "<{#0 : 1, #0 : 0}>", "<{#0 : 1048577}>", "<{#0 : 1048576, #0 : 1}>", "<{#0 : 4294967297}>", "<{#0 : "+wrap+"}>", "<{#0 : 9223372036854775807, #0 : 9223372036854775807, #0 : 3}>")
	}
	refuse(t, api.ErrTerm, "D(X)", "<{}>", "<{<{}> : 1}>")
	refuse(t, api.ErrTerm, "2 * D(X)", "#0", "<(1, {#1 : 1})>", "<(2, {#0 : 1})>", "<(1, {})>", "<(1, {#0 : 0})>")
}

func TestWhichErrorOfParse(t *testing.T) {
	refuse(t, api.ErrLarge, "X", strings.Repeat(" ", api.MaxText+1), "<#0>"+strings.Repeat(" ", api.MaxText-3), strings.Repeat("?", 1<<20), strings.Repeat("<", api.MaxText+1), "<#"+strings.Repeat("0", api.MaxText)+">")
	// A text that is no string of a term is one also if the rest of it is invalid.
	refuse(t, api.ErrText, "2 * D(X)", "<(2, {#0})>", "<(2, {#1 : 0}>", "<(1, {}))>", "#", "<(7, {#9 : 0, #8 : 01})>", "#7 #8")
	refuse(t, api.ErrText, "X", strings.Repeat(" ", api.MaxText), strings.Repeat("<", api.MaxText), strings.Repeat("<", api.MaxText-2)+"#0", nested(19999, "#")+"0", "<#0>"+strings.Repeat(" ", api.MaxText-5)+">")
	refuse(t, api.ErrText, "P(P(P(P(P(X)))))", strings.Repeat("<{{{{{", api.MaxText/6), strings.Repeat("<{{{{{}},", api.MaxText/9))
	for _, s := range []string{"<#0>" + strings.Repeat(" ", api.MaxText-4), strings.Repeat(" ", api.MaxText-4) + "<#0>", "<#" + strings.Repeat(" ", api.MaxText-4) + "0>"} {
		if x, e := Parse(typed("X"), s); e != api.OK || !Same(x, rec(leaf(0))) {
			t.Errorf("%d bytes: %s %d", len(s), short(x), e)
		}
	}
}

// TestLongestString has a term whose string is about as long as one can be: all of its numbers are long. There are none with more than MaxText bytes.
func TestLongestString(t *testing.T) {
	f := "P(D(D(D(D(D(D(16)))))))"
	element := "15"
	for range 6 {
		element = "{" + element + " : 1048576}"
	}
	text := "<" + list("{", times(285, element), "}") + ">"
	x := of(f, text)
	s, e := String(typed(f), x)
	if n, _ := Size(x); e != api.OK || s != text || n != 1997 || len(s) != 21662 {
		t.Errorf("%d nodes, %d bytes, error %d", n, len(s), e)
	}
	g := "D(D(D(D(X))))"
	inner := "#0"
	for range 99 {
		inner = "<{{{{" + inner + " : 1048576} : 1048576} : 1048576} : 1048576}>"
	}
	inner = strings.Replace(inner, "#0", "#98", 1)
	x = of(g, inner)
	if s, e := String(typed(g), x); e != api.OK || s != inner {
		t.Errorf("%d bytes, error %d", len(s), e)
	}
}

// TestRoundTrips checks that terms are printed as the chapter says and parsed back, also with other blanks.
func TestRoundTrips(t *testing.T) {
	samples(100, 14, func(d *sample.Dice, f string, x api.Term) {
		text, e := String(typed(f), x)
		if e != api.OK || text != words(typed(f), x) {
			t.Fatalf("%q %d, not %q", text, e, words(typed(f), x))
		}
		for _, again := range []string{text, strings.ReplaceAll(text, " ", ""), spread(text)} {
			if y, e := Parse(typed(f), again); e != api.OK || !Same(x, y) {
				t.Fatalf("%q: %s %d", again, short(y), e)
			}
		}
	})
}

// TestChangedTexts reads texts that differ from strings of terms in one byte: all that are read are printed as the same tokens.
func TestChangedTexts(t *testing.T) {
	count := map[api.Errno]int{}
	samples(60, 8, func(d *sample.Dice, f string, x api.Term) {
		text := words(typed(f), x)
		for range 10 {
			i, more := d.Below(len(text)), string("#<>(){}[],: 012lr-"[d.Below(18)])
			changed := text[:i] + more + text[i+d.Below(2):]
			y, e := Parse(typed(f), changed)
			count[e]++
			if e == api.OK && (strings.ReplaceAll(words(typed(f), y), " ", "") != strings.ReplaceAll(changed, " ", "") || !isTerm(typed(f), y)) {
				t.Fatalf("%q: %q", changed, words(typed(f), y))
			}
			if e != api.OK && (e != api.ErrText && e != api.ErrTerm || !isZero(y)) {
				t.Fatalf("%q: %s %d", changed, short(y), e)
			}
		}
	})
	if count[api.OK] < 500 || count[api.ErrText] < 5000 || count[api.ErrTerm] < 200 {
		t.Error(fmt.Sprint(count))
	}
}
