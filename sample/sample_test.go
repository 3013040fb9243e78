package sample

import (
	"testing"

	"ectype/api"
	"ectype/functor"
	"ectype/logic"
	"ectype/system"
)

// functors have each kind, and combinations of them.
var functors = []string{"X", "3", "X * 2", "2 + X", "X ^ 3", "P(X)", "B(1 + X)", "2 * D(X)", "D(P(X))", "P(B(X)) ^ 2"}

func TestSystemsAreValid(t *testing.T) {
	d := Dice(1)
	for _, f := range functors {
		for i := range 20 {
			if s := d.System(f, 1+i%5); system.Check(s) != api.OK || len(s.Next) != 1+i%5 {
				t.Errorf("%s: %v is no system of %d states", f, s, 1+i%5)
			}
		}
	}
}

func TestCoversAreHomomorphisms(t *testing.T) {
	d := Dice(2)
	for _, f := range functors {
		for i := range 20 {
			s := d.System(f, 1+i%5)
			c, h := d.Cover(s, 6+i)
			if is, e := system.Is(c, s, h); !is || e != api.OK || len(c.Next) != 6+i {
				t.Errorf("%s: %v is no homomorphism from a system of %d states: error %d", f, h, len(c.Next), e)
			}
		}
	}
}

func TestFormulasAreValid(t *testing.T) {
	d := Dice(4)
	steps := 0
	for _, text := range functors {
		f, _ := functor.Parse(text)
		for i := range 100 {
			a := d.Formula(f, 1+i%20)
			_, depth, k := logic.Size(a)
			if logic.Check(f, a) != api.OK || depth > 1+i%20 {
				t.Errorf("%s: %v is no formula of a depth of at most %d", text, a, 1+i%20)
			}
			steps = max(steps, k)
		}
	}
	if steps < 4 {
		t.Errorf("no formula has more than %d steps within each other", steps)
	}
}

func TestTheSameNumbersFromTheSameStart(t *testing.T) {
	c, d := Dice(3), Dice(3)
	for n := 1; n < 100; n++ {
		if x, y := c.Below(n), d.Below(n); x != y || x < 0 || x >= n {
			t.Errorf("%d and %d below %d", x, y, n)
		}
	}
}
