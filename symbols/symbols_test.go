package symbols_test

import (
	"testing"

	"temple/api"
	"temple/symbols"
)

func TestIsByte(t *testing.T) {
	for _, ends := range [][2]int{{0, 0}, {0, 255}, {255, 255}, {'a', 'a'}, {'a', 'z'}, {127, 128}} {
		s := api.Symbol{Name: symbols.NoName, Lo: ends[0], Hi: ends[1]}
		for c := range 256 {
			if got, want := symbols.IsByte(s, byte(c)), ends[0] <= c && c <= ends[1]; got != want {
				t.Errorf("%v, %d: %v", s, c, got)
			}
		}
	}
	if symbols.IsByte(api.Symbol{Name: 0}, 0) {
		t.Error("a name has a byte")
	}
}

func TestAllMarked(t *testing.T) {
	marked, not, byte0 := api.Symbol{Name: 1}, api.Symbol{Name: 0}, api.Symbol{Name: symbols.NoName}
	marks := []bool{false, true}
	for _, c := range []struct {
		row []api.Symbol
		all bool
	}{
		{nil, true},
		{[]api.Symbol{marked}, true},
		{[]api.Symbol{marked, marked}, true},
		{[]api.Symbol{not}, false},
		{[]api.Symbol{byte0}, false},
		{[]api.Symbol{marked, not}, false},
		{[]api.Symbol{not, marked}, false},
		{[]api.Symbol{marked, byte0, marked}, false},
	} {
		if got := symbols.AllMarked(c.row, marks); got != c.all {
			t.Errorf("%v: %v", c.row, got)
		}
	}
}

func TestAt(t *testing.T) {
	name, byte0 := api.Symbol{Name: 1}, api.Symbol{Name: symbols.NoName}
	g := api.Grammar{Rules: []api.Rule{
		{Conj: []api.Conjunct{{}}},
		{Conj: []api.Conjunct{{}, {Neg: true, Seq: []api.Symbol{name, byte0}}}},
	}}
	for _, c := range []struct {
		place  api.Place
		symbol api.Symbol
		ok     bool
	}{
		{api.Place{}, api.Symbol{}, false},
		{api.Place{Rule: 1}, api.Symbol{}, false},
		{api.Place{Rule: 1, Conj: 1}, name, true},
		{api.Place{Rule: 1, Conj: 1, Pos: 1}, byte0, true},
		{api.Place{Rule: 1, Conj: 1, Pos: 2}, api.Symbol{}, false},
	} {
		if got, ok := symbols.At(g, c.place); got != c.symbol || ok != c.ok {
			t.Errorf("%v: %v, %v", c.place, got, ok)
		}
	}
}
