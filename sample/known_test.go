package sample

import (
	"testing"

	"ectype/api"
	"ectype/logic"
)

func TestKnownSystems(t *testing.T) {
	if s := System(Coins); Text(s) != Coins || s.Functor.Args[1].Kind != api.FDist {
		t.Error(Text(s))
	}
	if s := States("P(X)", "{1}", "{}"); Text(s) != "type P(X)\n0 = {1}\n1 = {}\n" {
		t.Error(Text(s))
	}
	if s := Cycle(3, 1); Text(s) != "type 2 * X\n0 = (0, 1)\n1 = (1, 2)\n2 = (0, 0)\n" {
		t.Error(Text(s))
	}
	defer func() {
		if recover() == nil {
			t.Error("no panic for what is no functor")
		}
	}()
	Functor("Y")
}

func TestShapesOfFormulas(t *testing.T) {
	leaf := api.Formula{Op: api.LVar}
	if n, depth, _ := logic.Size(Nots(7, leaf)); n != 8 || depth != 8 {
		t.Errorf("%d nodes, depth %d", n, depth)
	}
	for nodes := 1; nodes < 300; nodes += 2 {
		a, lists := Ands(nodes, leaf), 0
		Lists(a, func(l []api.Formula) { lists++ })
		if n, depth, _ := logic.Size(a); n != nodes || depth > 10 || lists != nodes/2 {
			t.Errorf("%d nodes, not %d, depth %d, %d lists", n, nodes, depth, lists)
		}
	}
}

// TestChangedFormulas checks that a change leaves the formula that was changed as it was, and is one for most formulas.
func TestChangedFormulas(t *testing.T) {
	d := Dice(6)
	f := Functor("2 * P(X)")
	var same, none int
	for i := range 1000 {
		a := d.Formula(f, 1+i%9)
		before := Must(logic.String(f, a))
		b := d.Changed(a)
		if Must(logic.String(f, a)) != before {
			t.Fatalf("%s was changed", before)
		}
		if logic.Same(a, b) {
			same++
		}
		if logic.Check(f, b) != api.OK {
			none++
		}
	}
	if same > 400 || none < 300 {
		t.Errorf("%d are the same, %d are none", same, none)
	}
}
