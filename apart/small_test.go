package apart

import (
	"fmt"
	"slices"
	"testing"

	"ectype/api"
	"ectype/bisim"
	"ectype/equiv"
	"ectype/sample"
)

func TestSmall(t *testing.T) {
	for _, c := range []struct {
		system string
		x, y   int
		want   string
	}{
		{coins, 1, 2, "[[1 2]]"},
		{coins, 2, 1, "[[2 1]]"},
		{coins, 1, 1, "[[1 1]]"},
		{coins, 0, 0, "[[0 0] [1 1] [2 2]]"},
		{"type 3\n0 = 2\n1 = 2\n", 0, 1, "[[0 1]]"},
		{"type X\n0 = 1\n1 = 2\n2 = 1\n", 0, 0, "[[0 0] [1 1] [2 2]]"},
		{"type X\n0 = 1\n1 = 2\n2 = 1\n", 0, 1, "[[0 1] [1 2] [2 1]]"},
		{"type X\n0 = 1\n1 = 0\n2 = 3\n3 = 4\n4 = 2\n", 0, 2, "[[0 2] [0 3] [0 4] [1 2] [1 3] [1 4]]"},
		{"type X ^ 2\n0 = [0, 1]\n1 = [1, 0]\n", 0, 1, "[[0 1] [1 0]]"},
		{"type P(X)\n0 = {1}\n1 = {}\n2 = {3, 4}\n3 = {}\n4 = {}\n", 0, 2, "[[0 2] [1 3] [1 4]]"},
		{"type P(X)\n0 = {1}\n1 = {}\n2 = {3, 4}\n3 = {}\n4 = {}\n", 1, 4, "[[1 4]]"},
		{"type B(X)\n0 = {1 : 2}\n1 = {}\n2 = {3 : 1, 4 : 1}\n3 = {}\n4 = {}\n", 0, 2, "[[0 2] [1 3] [1 4]]"},
		{"type D(X)\n0 = {0 : 1}\n1 = {0 : 1, 1 : 1}\n", 0, 1, "[[0 0] [0 1]]"},
	} {
		s := of(c.system)
		r, e := Small(s, s, c.x, c.y)
		if fmt.Sprint(r) != c.want || e != api.OK {
			t.Errorf("%q: %d and %d: %v %d, not %s", c.system, c.x, c.y, r, e, c.want)
		}
	}
}

func TestSmallOfOthers(t *testing.T) {
	s := of(coins)
	for _, p := range pairs(0, 1, 1, 0, 0, 2, 2, 0) {
		if r, e := Small(s, s, p[0], p[1]); e != api.ErrNone || len(r) > 0 {
			t.Errorf("%v: %v %d", p, r, e)
		}
	}
	checkErrors(t, func(s, u api.System, x, y int) (bool, api.Errno) {
		r, e := Small(s, u, x, y)
		return len(r) == 0, e
	})
}

// TestSmallRelations checks all states that behave alike in many systems. Where there is one relation without superfluous pairs, it is the least one.
func TestSmallRelations(t *testing.T) {
	count, sizes, less := 0, 0, 0
	samples(9, 5, func(d *sample.Dice, s, u api.System) {
		largest := must(bisim.Largest(s, u))
		for x := range s.Next {
			for y := range u.Next {
				r, e := Small(s, u, x, y)
				if !must(equiv.Alike(s, u, x, y)) {
					if e != api.ErrNone || len(r) > 0 {
						t.Fatalf("%d of %q and %d of %q: %v %d", x, written(s), y, written(u), r, e)
					}
					continue
				}
				if e != api.OK {
					t.Fatalf("%d of %q and %d of %q: error %d", x, written(s), y, written(u), e)
				}
				checkSmall(t, s, u, x, y, r)
				count++
				sizes = max(sizes, len(r))
				if len(r) < len(largest) {
					less++
				}
			}
		}
	})
	if count < 1000 || sizes < 10 || less < 500 {
		t.Errorf("%d relations with up to %d pairs, %d of them smaller than the largest one", count, sizes, less)
	}
}

// TestSmallOfManyChoices checks systems in which each relation has many pairs of which one is as good as another one.
func TestSmallOfManyChoices(t *testing.T) {
	d := sample.Dice(3)
	few := func(x int) []int {
		l := []int{x}
		for y := range 12 {
			if y != x && d.Below(2) == 0 {
				l = append(l, y)
			}
		}
		slices.Sort(l)
		return l
	}
	for range 4 {
		s, u := sets(12, few), sets(12, few)
		for range 4 {
			x, y := d.Below(12), d.Below(12)
			checkSmall(t, s, u, x, y, must(Small(s, u, x, y)))
			checkVerdict(t, s, u, x, y)
		}
	}
	for _, f := range []string{"D(X)", "D(X * X)", "P(D(X))", "D(P(X) + X)", "X ^ 2 * D(X)"} {
		for range 3 {
			s := d.System(f, 10)
			u, _ := d.Cover(s, 12)
			for range 10 {
				x, y := d.Below(10), d.Below(12)
				if must(equiv.Alike(s, u, x, y)) {
					checkSmall(t, s, u, x, y, must(Small(s, u, x, y)))
				}
			}
		}
	}
}

// TestSmallOfLargeSystems checks systems of the largest number of states. Only a part of the pairs is tried.
func TestSmallOfLargeSystems(t *testing.T) {
	all := sets(100, func(int) []int { return before(100) })
	ordinals := sets(100, before)
	ring, other := cycle(100, 0), cycle(99, 0)
	for x := range ring.Next {
		ring.Next[x].Args[0].N = 0
	}
	for x := range other.Next {
		other.Next[x].Args[0].N = 0
	}
	for _, c := range []struct {
		name       string
		s, u       api.System
		x, y, size int
	}{
		{"all", all, all, 17, 18, 100},
		{"ordinals", ordinals, ordinals, 99, 99, 100},
		{"rings", ring, other, 5, 6, 9900},
	} {
		r := must(Small(c.s, c.u, c.x, c.y))
		if !isBisimulation(c.s, c.u, r, c.x, c.y) {
			t.Errorf("%s: %v", c.name, r)
		}
		if len(r) < c.size || len(r) > c.size+1 {
			t.Errorf("%s: %d pairs, not %d", c.name, len(r), c.size)
		}
		if l := must(Decide(c.s, c.u, c.x, c.y)).Relation; len(l) > 2*c.size {
			t.Errorf("%s: %d pairs in a verdict", c.name, len(l))
		}
		for i := 0; i < len(r); i += 1 + len(r)/10 {
			if r[i] == [2]int{c.x, c.y} {
				continue
			}
			if is, _ := bisim.Is(c.s, c.u, slices.Delete(slices.Clone(r), i, i+1)); is {
				t.Errorf("%s: also without %v", c.name, r[i])
			}
		}
	}
}
