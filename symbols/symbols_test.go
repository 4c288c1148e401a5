package symbols_test

import (
	"testing"

	"temple/api"
	"temple/symbols"
)

func TestIsByte(t *testing.T) {
	for _, ends := range [][2]int{{0, 0}, {0, 255}, {255, 255}, {'a', 'a'}, {'a', 'z'}, {127, 128}} {
		s := api.Symbol{Name: symbols.NoName, Lo: ends[0], Hi: ends[1]}
		for c := range 256 {
			if got, want := symbols.IsByte(s, byte(c)), ends[0] <= c && c <= ends[1]; got != want {
				t.Errorf("%v, %d: %v", s, c, got)
			}
		}
	}
	if symbols.IsByte(api.Symbol{Name: 0}, 0) {
		t.Error("a name has a byte")
	}
}

func TestAllMarked(t *testing.T) {
	marked, not, byte0 := api.Symbol{Name: 1}, api.Symbol{Name: 0}, api.Symbol{Name: symbols.NoName}
	marks := []bool{false, true}
	for _, c := range []struct {
		row []api.Symbol
		all bool
	}{
		{nil, true},
		{[]api.Symbol{marked}, true},
		{[]api.Symbol{marked, marked}, true},
		{[]api.Symbol{not}, false},
		{[]api.Symbol{byte0}, false},
		{[]api.Symbol{marked, not}, false},
		{[]api.Symbol{not, marked}, false},
		{[]api.Symbol{marked, byte0, marked}, false},
	} {
		if got := symbols.AllMarked(c.row, marks); got != c.all {
			t.Errorf("%v: %v", c.row, got)
		}
	}
}
