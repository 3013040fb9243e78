package notation

import (
	"fmt"
	"math"
	"reflect"
	"slices"
	"strings"
	"testing"

	"ectype/api"
	"ectype/functor"
	"ectype/scan"
)

func typed(t *testing.T, text string) api.Functor {
	t.Helper()
	f, e := functor.Parse(text)
	if e != api.OK {
		t.Fatalf("%s is no functor", text)
	}
	return f
}

func node(n int, weights []int, args ...api.Value) api.Value {
	return api.Value{N: n, Args: args, Weights: weights}
}

func at(n int) api.Value { return node(n, nil) }

// word and wordOf write and read `?` and a number in the place of a state.
func word(v api.Value) string { return fmt.Sprint("?", v.N) }
func wordOf(r *scan.Reader) api.Value {
	r.Take('?')
	return api.Value{N: r.Number()}
}

func read(f api.Functor, text string) (api.Value, bool) {
	return scan.All(text, func(r *scan.Reader) api.Value {
		return Read(r, f, func() api.Value { return wordOf(r) })
	})
}

// known has values, valid ones or not, with their strings.
var known = []struct {
	f    string
	v    api.Value
	text string
}{
	{"X", at(7), "?7"},
	{"3", at(2), "2"},
	{"3", at(30), "30"},
	{"2 * X", node(0, nil, at(1), at(10)), "(1, ?10)"},
	{"1 + X", node(0, nil, at(0)), "l 0"},
	{"1 + X", node(1, nil, at(12)), "r ?12"},
	{"X ^ 2", node(0, nil, at(3), at(0)), "[?3, ?0]"},
	{"X ^ 2", node(0, nil, at(3)), "[?3]"},
	{"X ^ 2", at(0), "[]"},
	{"P(X)", at(0), "{}"},
	{"P(X)", node(0, nil, at(5), at(3), at(5)), "{?5, ?3, ?5}"},
	{"B(X)", at(0), "{}"},
	{"B(X)", node(0, []int{2, 0}, at(5), at(5)), "{?5 : 2, ?5 : 0}"},
	{"D(X)", node(0, []int{math.MaxInt}, at(5)), "{?5 : 9223372036854775807}"},
	{"D(P(1 + (X * 2)))", node(0, []int{3, 6}, at(0), node(0, nil, node(1, nil, node(0, nil, at(4), at(1))), node(0, nil, at(0)))), "{{} : 3, {r (?4, 1), l 0} : 6}"},
}

func TestKnownValues(t *testing.T) {
	for _, c := range known {
		f := typed(t, c.f)
		if got := Text(f, c.v, word); got != c.text {
			t.Errorf("%s: %s, not %s", c.f, got, c.text)
		}
		for _, text := range []string{c.text, strings.ReplaceAll(c.text, " ", ""), " " + strings.NewReplacer(",", " , ", "?", " ? ", "}", " } ", "]", " ] ", ")", " )").Replace(c.text)} {
			if v, ok := read(f, text); !ok || !reflect.DeepEqual(v, c.v) {
				t.Errorf("%s: %q: %v %v", c.f, text, v, ok)
			}
		}
	}
}

func TestTextsThatAreRefused(t *testing.T) {
	for f, texts := range map[string]string{
		"X":     "; ;?;? ?;7;7?;?07;??7;(?7);?7 8;?-1",
		"3":     ";?1;01;-1;a;1 1",
		"2 * X": "(;();(1;(1,;(1,);(,?1);(1 ?1);(1,?1;(1,?1,?1);[1,?1];(?1,1);1,?1;(1,?1))",
		"1 + X": "l;r;0;l ?1;r 0;s 0;L 0;l r ?1;l 0 0",
		"X ^ 2": "[;];[?1;[?1,];[,?1];[?1 ?1];[?1,?1};{?1,?1};[?1 : 1]",
		"P(X)":  "{;};{?1;{?1,};{,};{?1 ?1};{?1 : 1};[?1]",
		"B(X)":  "{;};{?1};{?1 : };{: 1};{?1 : 1,};{?1 : 01};{?1 : -1};{?1 :: 1};{1 : ?1};{?1 1}",
		"D(X)":  "{;};{?1};{?1 : };{?1 : 1, ?1};{?1, ?1 : 1};{?1 : ?1}",
	} {
		for _, text := range strings.Split(texts, ";") {
			if v, ok := read(typed(t, f), text); ok || !reflect.DeepEqual(v, api.Value{}) {
				t.Errorf("%s: %q: %v", f, text, v)
			}
		}
	}
}

// TestArgument checks that a value that is written does not change.
func TestArgument(t *testing.T) {
	f, v := typed(t, "B(X)"), node(0, []int{2, 1}, at(1), at(0))
	Text(f, v, func(u api.Value) string {
		u.N = 9
		return ""
	})
	if !slices.Equal(v.Weights, []int{2, 1}) || v.Args[0].N != 1 || v.Args[1].N != 0 {
		t.Errorf("%v", v)
	}
}
