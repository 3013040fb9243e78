package rounds

import (
	"fmt"
	"slices"
	"testing"

	"ectype/api"
	"ectype/sample"
	"ectype/unfold"
	"ectype/value"
)

// What package sample has, by shorter names.
const coins = sample.Coins

var of, cycle = sample.System, sample.Cycle

func must[R any](r R, e api.Errno) R { return sample.Must(r, e) }

func TestClasses(t *testing.T) {
	for _, c := range []struct {
		systems []api.System
		want    string
	}{
		{[]api.System{of("type X\n")}, "[[]]"},
		{[]api.System{of("type X\n0 = 1\n1 = 0\n")}, "[[0 0]]"},
		{[]api.System{of(coins)}, "[[0 0 0] [0 1 1]]"},
		{[]api.System{of("type P(X)\n0 = {0, 1, 2, 3}\n1 = {2}\n2 = {3}\n3 = {}\n")}, "[[0 0 0 0] [0 0 0 1] [0 1 2 3]]"},
		{[]api.System{of(coins), of(coins)}, "[[0 0 0 0 0 0] [0 1 1 0 1 1]]"},
		{[]api.System{of(coins), of("type 2 * D(X)\n"), of("type 2 * D(X)\n0 = (0, {0 : 1})\n")}, "[[0 0 0 0] [0 1 1 0] [0 1 1 2]]"},
	} {
		var all [][]int
		for k, classes := range Classes(c.systems...) {
			if k != len(all) {
				t.Errorf("round %d after %v", k, all)
			}
			all = append(all, classes)
		}
		if got := fmt.Sprint(all); got != c.want {
			t.Errorf("%v: %s, not %s", c.systems, got, c.want)
		}
	}
}

// TestManyClasses checks that there may be more classes than a system has states: the outputs of both first states are equal for 197 rounds.
func TestManyClasses(t *testing.T) {
	last, parted := 0, 0
	for k, classes := range Classes(cycle(99, 98), cycle(100, 98)) {
		last = slices.Max(classes)
		if parted == 0 && classes[0] != classes[99] {
			parted = k
		}
	}
	if last != 198 || parted != 198 {
		t.Errorf("%d classes, the first states differ in round %d", last+1, parted)
	}
}

func TestRanks(t *testing.T) {
	d := sample.Dice(1)
	for _, f := range []string{"2 * X", "P(X)", "2 * P(X)", "B(1 + X)", "2 * D(X)", "P(D(1 + X))"} {
		s := d.System(f, 5)
		classes := make([][]int, 4)
		for k, l := range Classes(s) {
			for i := k; i < len(classes); i++ { // the classes of the stable round are those of all later ones
				classes[i] = l
			}
		}
		for k, ranks := range Ranks(s) {
			if k == len(classes) {
				break
			}
			if !slices.Equal(Numbered(ranks), classes[k]) {
				t.Errorf("%v: round %d: ranks %v, classes %v", s, k, ranks, classes[k])
			}
			for x := range s.Next {
				for y := range s.Next {
					order := value.Compare(must(unfold.Unfold(s, x, k)), must(unfold.Unfold(s, y, k)))
					if order < 0 != (ranks[x] < ranks[y]) {
						t.Errorf("%v: round %d: ranks %v of %d and %d", s, k, ranks, x, y)
					}
				}
			}
		}
	}
}

func TestNumbered(t *testing.T) {
	if got := Numbered([]string{"b", "a", "b", "c", "a"}); !slices.Equal(got, []int{0, 1, 0, 2, 1}) {
		t.Error(got)
	}
	if got := Numbered[int](nil); len(got) != 0 {
		t.Error(got)
	}
}
