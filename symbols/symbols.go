// Package symbols: what the layers share of a grammar's symbols.
package symbols

import "temple/api"

// NoName is the Name of a symbol that is a range of bytes.
const NoName = -1

// IsByte: is s a range with the byte c in it?
func IsByte(s api.Symbol, c byte) bool {
	return s.Name == NoName && s.Lo <= int(c) && int(c) <= s.Hi
}

// AllMarked: is each symbol of a row a name that has its mark? One of no
// symbols has none that is not.
func AllMarked(row []api.Symbol, marks []bool) bool {
	for _, s := range row {
		if s.Name == NoName || !marks[s.Name] {
			return false
		}
	}
	return true
}

// At is what stands at a place of g; false, if that is its conjunct's end.
func At(g api.Grammar, p api.Place) (api.Symbol, bool) {
	seq := g.Rules[p.Rule].Conj[p.Conj].Seq
	if p.Pos == len(seq) {
		return api.Symbol{}, false
	}
	return seq[p.Pos], true
}
