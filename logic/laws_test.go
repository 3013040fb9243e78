package logic

import (
	"slices"
	"testing"

	"ectype/api"
	"ectype/equiv"
	"ectype/sample"
	"ectype/unfold"
)

// TestInvariance checks that a formula is true of both or of none of two states whose unfoldings are equal to the depth of its steps.
func TestInvariance(t *testing.T) {
	var equal, apart, deep int
	samples(60, 4, 14, func(d *sample.Dice, s api.System, a api.Formula) {
		u, _ := d.Cover(s, len(s.Next)+d.Below(3))
		_, _, steps := Size(a)
		ofS, ofU := must(True(s, a)), must(True(u, a))
		for x := range s.Next {
			for y := range u.Next {
				if !must(unfold.Equal(s, u, x, y, steps)) {
					apart++
					continue
				}
				equal++
				if !must(equiv.Alike(s, u, x, y)) {
					deep++
				}
				if slices.Contains(ofS, x) != slices.Contains(ofU, y) {
					t.Fatalf("%s of %d in %s and of %d in %s", words(a), x, written(s), y, written(u))
				}
			}
		}
	})
	if equal < 1000 || apart < 1000 || deep < 100 {
		t.Errorf("%d pairs with equal unfoldings, %d of which are not alike, and %d with different ones", equal, deep, apart)
	}
}

// TestBehavior checks that states that behave alike have the same formulas, and that others are told apart by some formula.
func TestBehavior(t *testing.T) {
	told, missed := 0, 0
	d := sample.Dice(3)
	for _, f := range functors {
		for i := range 6 {
			s := d.System(f, 2+i%3)
			classes := must(equiv.Classes(s))
			var truths [][]int
			for range 150 {
				truths = append(truths, must(True(s, d.Formula(s.Functor, 1+d.Below(16)))))
			}
			for x := range s.Next {
				for y := range x {
					differ := slices.ContainsFunc(truths, func(l []int) bool { return slices.Contains(l, x) != slices.Contains(l, y) })
					if differ && classes[x] == classes[y] {
						t.Fatalf("%d and %d of %s behave alike", x, y, written(s))
					}
					if differ {
						told++
					} else if classes[x] != classes[y] {
						missed++
					}
				}
			}
		}
	}
	if told < 200 || missed > told/4 {
		t.Errorf("%d pairs are told apart, %d are not", told, missed)
	}
}

// TestHomomorphisms checks that a homomorphism keeps the truth of formulas, also in large systems.
func TestHomomorphisms(t *testing.T) {
	count := map[bool]int{}
	compare := func(s, c api.System, h []int, a api.Formula) {
		t.Helper()
		below, above := must(True(s, a)), must(True(c, a))
		for x, y := range h {
			is := must(Holds(c, x, a))
			count[is]++
			if is != slices.Contains(below, y) || is != slices.Contains(above, x) {
				t.Fatalf("%s: of %d in %s, not of %d in %s", words(a), y, written(s), x, written(c))
			}
		}
	}
	samples(60, 4, 14, func(d *sample.Dice, s api.System, a api.Formula) {
		c, h := d.Cover(s, len(s.Next)+d.Below(6))
		compare(s, c, h, a)
		m, classes, _ := equiv.Minimal(s)
		compare(m, s, classes, a)
	})
	d := sample.Dice(4)
	for _, f := range []string{"2 * X ^ 2", "2 * P(X)", "B(1 + X)", "2 * D(X)"} {
		s := d.System(f, 30)
		c, h := d.Cover(s, 100)
		for range 5 {
			compare(s, c, h, d.Formula(s.Functor, 30))
		}
	}
	if count[false] < 1000 || count[true] < 1000 {
		t.Errorf("%v", count)
	}
}
