package symbols_test

import (
	"testing"

	"temple/api"
	"temple/symbols"
)

func TestIsByte(t *testing.T) {
	for _, ends := range [][2]int{{0, 0}, {0, 255}, {255, 255}, {'a', 'a'}, {'a', 'z'}, {127, 128}} {
		s := api.Symbol{Name: symbols.NoName, Lo: ends[0], Hi: ends[1]}
		for c := range 256 {
			if got, want := symbols.IsByte(s, byte(c)), ends[0] <= c && c <= ends[1]; got != want {
				t.Errorf("%v, %d: %v", s, c, got)
			}
		}
	}
	if symbols.IsByte(api.Symbol{Name: 0}, 0) {
		t.Error("a name has a byte")
	}
}
