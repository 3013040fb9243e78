package logic

import (
	"strings"
	"testing"

	"ectype/api"
	"ectype/sample"
)

// everyKind is a functor in which each kind occurs.
const everyKind = "P(B(X)) + (3 * D(X ^ 2))"

func TestString(t *testing.T) {
	at := node(api.LState, top)
	for _, c := range []struct {
		f    string
		a    api.Formula
		want string
	}{
		{"X", top, "top"},
		{"X", nots(2, top), "not not top"},
		{"X", node(api.LAnd, top, nots(1, top)), "(top and not top)"},
		{"X", node(api.LAnd, node(api.LAnd, top, top), top), "((top and top) and top)"},
		{"X", node(api.LAnd, top, node(api.LAnd, top, top)), "(top and (top and top))"},
		{"X", nots(1, node(api.LAnd, top, top)), "not (top and top)"},
		{"X", step(at), "step at top"},
		{"X", step(node(api.LState, step(at))), "step at step at top"},
		{"3", step(at1(api.LIs, 0)), "step is 0"},
		{"16", step(at1(api.LIs, 15)), "step is 15"},
		{"2 * X", step(node(api.LFirst, at1(api.LIs, 1))), "step first is 1"},
		{"2 * X", step(node(api.LSecond, at)), "step second at top"},
		{"2 + X", step(node(api.LLeft, at1(api.LIs, 1))), "step left is 1"},
		{"2 + X", step(node(api.LRight, at)), "step right at top"},
		{"X ^ 4", step(at1(api.LAt, 3, at)), "step input 3 at top"},
		{"X ^ 4", step(node(api.LAnd, at1(api.LAt, 0, at), at1(api.LAt, 1, top))), "step (input 0 at top and input 1 top)"},
		{"P(X)", step(nots(1, node(api.LSome, nots(1, at)))), "step not some not at top"},
		{"B(X)", step(at1(api.LMany, 1, at)), "step many 1 at top"},
		{"B(X)", step(at1(api.LMany, 1048576, at)), "step many 1048576 at top"},
		{"D(X)", step(at2(api.LShare, 2, 4, at)), "step share 2 / 4 at top"},
		{"D(X)", step(at2(api.LShare, 1048575, 1048576, top)), "step share 1048575 / 1048576 top"},
		{"1 + B(X) ^ 2", nots(1, step(node(api.LRight, at1(api.LAt, 1, at1(api.LMany, 2, node(api.LAnd, at, top)))))), "not step right input 1 many 2 (at top and top)"},
	} {
		f := typed(c.f)
		if s, e := String(f, c.a); s != c.want || e != api.OK {
			t.Errorf("%s: %q %d, not %q", c.f, s, e, c.want)
		}
		if a, e := Parse(f, c.want); !Same(a, c.a) || e != api.OK {
			t.Errorf("%s: %q: %v %d", c.f, c.want, a, e)
		}
	}
}

func TestStringsOfNoFormulas(t *testing.T) {
	for _, a := range []api.Formula{node(api.LStep), node(api.LVar), step(node(api.LSome, top)), at1(api.LTop, 1), nots(100, top), tops(2001), node(-1), node(api.LAnd, top)} {
		if s, e := String(typed("X"), a); s != "" || e != api.ErrFormula {
			t.Errorf("%v: %q %d", a, s, e)
		}
		if s, e := String(api.Functor{Kind: -1}, a); s != "" || e != api.ErrFunctor {
			t.Errorf("%v: %q %d", a, s, e)
		}
	}
	if s, e := String(api.Functor{Kind: api.FProd}, top); s != "" || e != api.ErrFunctor {
		t.Errorf("%q %d", s, e)
	}
}

func TestBlanks(t *testing.T) {
	for _, c := range []struct{ f, text, want string }{
		{"X", "  top  ", "top"},
		{"X", "not   top", "not top"},
		{"X", "(top and top)", "(top and top)"},
		{"X", " ( top  and  top ) ", "(top and top)"},
		{"X", "not(top and not(top and top))", "not (top and not (top and top))"},
		{"X", "((top and top)and(top and top))", "((top and top) and (top and top))"},
		{"X", "step(at(top and top)and top)", "step (at (top and top) and top)"},
		{"3", "step is2", "step is 2"},
		{"3", "(step is0and step is  1)", "(step is 0 and step is 1)"},
		{"X ^ 2", "step input1at top", "step input 1 at top"},
		{"B(X)", "step many12at top", "step many 12 at top"},
		{"D(X)", "step share2/3at top", "step share 2 / 3 at top"},
		{"D(X)", " step  share  2  /  3  at  top ", "step share 2 / 3 at top"},
		{"D(X)", "step share 1/1(top and at top)", "step share 1 / 1 (top and at top)"},
	} {
		f := typed(c.f)
		a, e := Parse(f, c.text)
		if s, _ := String(f, a); s != c.want || e != api.OK {
			t.Errorf("%s: %q: %q %d, not %q", c.f, c.text, s, e, c.want)
		}
	}
}

// refuse checks that Parse returns the error and the zero value.
func refuse(t *testing.T, want api.Errno, f string, texts ...string) {
	t.Helper()
	for _, s := range texts {
		if a, e := Parse(typed(f), s); e != want || !isZero(a) {
			t.Errorf("%s: %.60q: %v %d, not error %d", f, s, a, e, want)
		}
	}
}

func TestTextsThatAreNoFormulas(t *testing.T) {
	for _, f := range append([]string{everyKind}, oneKind...) {
		refuse(t, api.ErrText, f,
			"", " ", "   ",
			// words that are none
			"X", "true", "Top", "TOP", "tops", "to", "nottop", "topand", "steptop", "or", "var", "none", "isnt 1", "att top", "topnot", "λ", "tóp",
			// missing and additional parts
			"not", "step", "at", "is", "first", "second", "left", "right", "input", "some", "many", "share", "and", "step step", "not not", "at at", "step at",
			"top top", "top not top", "top 1", "1", "0", "is 1 top", "is 1 2", "is 1 is 1", "is top", "is is 1", "some 1 top", "first 0 top", "not 1 top", "at 0 top", "step 0 top", "top is",
			"input top", "input at top", "input 1", "input 1 2 top", "input 1 / 2 top", "many top", "many 1", "many 1 2 top", "many 1 / 2 top", "many / top",
			"share top", "share 1 top", "share 1 / top", "share / 2 top", "share 1 2 top", "share 1 / 2", "share 1 / 2 / 3 top", "share 1 // 2 top", "share 1 / / 2 top", "share 2 top / 3", "share (1 / 2) top", "1 / 2 top",
			// brackets and conjunctions
			"(", ")", "()", "(top", "top)", "(top)", "((top))", "(not top)", "(top and", "(top and)", "(and top)", "(and)", "(top top)", "(top not top)", "(top or top)", "(top and top", "(top and top))", "((top and top)", "((top and top))",
			"top and top", "and top top", "and", "not and top", "(top and top and top)", "(top and top) and top", "top and (top and top)", "(top and and top)", "(top (and) top)", "not top and top", "(top and top) top", "(top and top)(top and top)", "[top and top]", "(top, top)", "(top AND top)", "(topandtop)", "(top andtop)", "(topand top)",
			// numbers
			"is 00", "is 01", "is 007", "input 00 top", "many 01 top", "share 01 / 2 top", "share 1 / 02 top", "is +1", "is 1.0", "is 1_0", "is 0x1", "is 1e1", "is ١",
			// bytes of no token
			"top\t", "\ttop", "top\n", "\ntop", "not\ttop", "not\ntop", "top\x00", "\x00", "top\u00a0", "not\u00a0top", "top;", "top.", "top,", "#0", "<top>", "\"top\"", "top \xff", "not-top", "not_top", "!top", "~top", "share 1 : 2 top", "share 1 \\ 2 top",
		)
	}
}

func TestTextsOfFormulasForOtherFunctors(t *testing.T) {
	for i, f := range oneKind {
		for j, text := range []string{"at top", "is 0", "first top", "left top", "input 0 top", "some top", "many 1 top", "share 1 / 1 top"} {
			if i != j {
				refuse(t, api.ErrFormula, f, "step "+text, "step not "+text, "(top and step ("+text+" and top))")
			} else if a, e := Parse(typed(f), "step "+text); e != api.OK || isZero(a) {
				t.Errorf("%s: %s: %d", f, text, e)
			}
			refuse(t, api.ErrFormula, f, text, "not "+text, "("+text+" and top)", "(top and "+text+")", "at "+text)
		}
		refuse(t, api.ErrFormula, f, "step step top", "step not step top", "at top", "(at top and is 0)", "first second left right some at step is 99")
	}
	refuse(t, api.ErrFormula, everyKind, "step left some many 0 at top", "step right first is 3", "step right second share 0 / 1 top", "step right second share 2 / 1 top", "step right second share 1 / 0 top", "step right second share 0 / 0 top", "step right second share 1 / 1 input 2 at top", "step left some many 1048577 top", "step right second share 1 / 1048577 top", "step left left top")
}

// TestLargeNumbers has numbers that are greater than the greatest int, and some that would wrap around to small ones.
func TestLargeNumbers(t *testing.T) {
	for _, n := range []string{"4294967297", "9223372036854775807", "9223372036854775808", "18446744073709551617", strings.Repeat("9", 30000), "1" + strings.Repeat("0", 30000)} {
		refuse(t, api.ErrFormula, everyKind, "step right first is "+n, "step left some many "+n+" top", "step right second share 1 / "+n+" top", "step right second share "+n+" / "+n[:min(len(n), 9000)]+" top", "step right second share 1 / 1 input "+n+" top")
		refuse(t, api.ErrText, everyKind, "step right first is 0"+n, "step right first is "+n+" top")
	}
}

func TestWhichErrorOfParse(t *testing.T) {
	for _, f := range []api.Functor{{Kind: -1}, {Kind: api.FConst}, {Kind: api.FPow}} {
		for _, s := range []string{"top", "step is 1", "", "step", strings.Repeat(" ", api.MaxText+1)} {
			if a, e := Parse(f, s); e != api.ErrFunctor || !isZero(a) {
				t.Errorf("%v: %.20q: %v %d", f, s, a, e)
			}
		}
	}
	long := strings.Repeat(" ", api.MaxText-3)
	refuse(t, api.ErrLarge, "2", long+" top", "top "+long, strings.Repeat("(", api.MaxText+1), strings.Repeat("not ", 1<<20), "step is "+long, strings.Repeat("1", api.MaxText+1), strings.Repeat("?", 1<<24))
	refuse(t, api.ErrText, "2", "step is 2 top", "(step is 2 and", "step is 2)", "first step is 02", "some", "(is 7)", long+"   ", long+"to", long+"not")
	refuse(t, api.ErrFormula, "2", long[len("step is 2"):]+"step is 2", "some top"+long[len("some top"):])
	for _, s := range []string{long + "top", "top" + long} {
		if a, e := Parse(typed("2"), s); e != api.OK || !Same(a, top) {
			t.Errorf("%.10q: %v %d", s, a, e)
		}
	}
}

// TestLimitsOfSize checks that strings of formulas that are too large are refused as such.
func TestLimitsOfSize(t *testing.T) {
	f := typed("X")
	for _, a := range []api.Formula{nots(99, top), tops(1999), step(tops(1999))} {
		if b, e := Parse(f, words(a)); e != api.OK || !Same(a, b) {
			t.Errorf("%.20q: error %d", words(a), e)
		}
	}
	for _, a := range []api.Formula{nots(100, top), tops(2001), step(nots(1, tops(1999))), nots(9999, top)} {
		refuse(t, api.ErrFormula, "X", words(a))
	}
	refuse(t, api.ErrText, "X", strings.Repeat("(", api.MaxText), strings.Repeat("not ", api.MaxText/4), strings.Repeat("(not", api.MaxText/4), strings.Repeat("top ", api.MaxText/4))
	deep := strings.Repeat("(", 3000) + "top" + strings.Repeat(" and top)", 3000)
	refuse(t, api.ErrFormula, "X", deep)
}

// TestLongestString has a formula whose string is about as long as one can be: there are none with more than MaxText bytes.
func TestLongestString(t *testing.T) {
	f := typed("D(D(D(D(D(D(D(16)))))))")
	shares := at1(api.LIs, 15)
	for range 7 {
		shares = at2(api.LShare, api.MaxWeight, api.MaxWeight, shares)
	}
	var many func(leaves int) api.Formula
	many = func(leaves int) api.Formula {
		if leaves == 1 {
			return shares
		}
		return node(api.LAnd, many(leaves/2), many(leaves-leaves/2))
	}
	a := nots(2, step(many(222)))
	s, e := String(f, a)
	if n, _, _ := Size(a); e != api.OK || s != words(a) || n != api.MaxFormula || len(s) != 39966 {
		t.Fatalf("%d nodes, %d bytes, error %d", n, len(s), e)
	}
	if b, e := Parse(f, s); e != api.OK || !Same(a, b) {
		t.Errorf("error %d", e)
	}
}

// TestRoundTrips checks that formulas are printed as the chapter says and parsed back, also without blanks where no words or numbers meet.
func TestRoundTrips(t *testing.T) {
	samples(150, 1, 20, func(d *sample.Dice, s api.System, a api.Formula) {
		text, e := String(s.Functor, a)
		if e != api.OK || text != words(a) {
			t.Fatalf("%q %d, not %q", text, e, words(a))
		}
		for _, again := range []string{text, spaced(d, text)} {
			if b, e := Parse(s.Functor, again); e != api.OK || !Same(a, b) {
				t.Fatalf("%q: %v %d", again, b, e)
			}
		}
	})
}

// spaced returns the text with other blanks, or none, where there may be some.
func spaced(d *sample.Dice, text string) string {
	const letters, digits = "abcdefghijklmnopqrstuvwxyz", "0123456789"
	for _, c := range "()/" {
		text = strings.ReplaceAll(text, string(c), " "+string(c)+" ")
	}
	var s strings.Builder
	last := "("
	for _, token := range strings.Fields(text) {
		first, before := token[:1], last[len(last)-1:]
		together := strings.Contains(letters, first) && strings.Contains(letters, before) || strings.Contains(digits, first) && strings.Contains(digits, before)
		blanks := d.Below(3)
		if together {
			blanks++
		}
		s.WriteString(strings.Repeat(" ", blanks) + token)
		last = token
	}
	return s.String()
}

// TestChangedTexts reads texts that differ from strings of formulas in one byte: all that are read are printed as the same tokens.
func TestChangedTexts(t *testing.T) {
	count := map[api.Errno]int{}
	samples(40, 1, 12, func(d *sample.Dice, s api.System, a api.Formula) {
		text := words(a)
		for range 10 {
			i, more := d.Below(len(text)), string("()/ 019adnot-"[d.Below(13)])
			changed := text[:i] + more + text[i+d.Below(2):]
			b, e := Parse(s.Functor, changed)
			count[e]++
			if e == api.OK && strings.ReplaceAll(words(b), " ", "") != strings.ReplaceAll(changed, " ", "") {
				t.Fatalf("%q: %q", changed, words(b))
			}
			if e != api.OK && (e != api.ErrText && e != api.ErrFormula || !isZero(b)) {
				t.Fatalf("%q: %v %d", changed, b, e)
			}
		}
	})
	if count[api.OK] < 100 || count[api.ErrText] < 1000 || count[api.ErrFormula] < 30 {
		t.Errorf("%v", count)
	}
}
