package bin_test

import (
	"fmt"
	"slices"
	"testing"

	"temple/api"
	"temple/bin"
	"temple/gram"
	"temple/mean"
)

// again makes what the chapter says once more: a name at a time, each with all
// that is within it ahead of the next conjunct.
type again struct {
	old []string
	g   api.Grammar
	// number is the one that the next new name may have.
	number int
}

// name is a new name that stands for a row.
func (a *again) name(seq []api.Symbol) api.Symbol {
	for slices.Contains(a.old, fmt.Sprintf("_%d", a.number)) {
		a.number++
	}
	at := len(a.g.Names)
	a.g.Names = append(a.g.Names, fmt.Sprintf("_%d", a.number))
	a.number++
	a.g.Rules = append(a.g.Rules, api.Rule{Head: at})
	rule := len(a.g.Rules) - 1
	made := a.row(seq)
	a.g.Rules[rule].Conj = []api.Conjunct{{Seq: made}}
	return ref(at)
}

func (a *again) row(seq []api.Symbol) []api.Symbol {
	if len(seq) < 3 {
		return slices.Clone(seq)
	}
	return []api.Symbol{seq[0], a.name(slices.Clone(seq[1:]))}
}

// binAgain is the grammar that g, which may be, makes, whether that one may be
// or not.
func binAgain(g api.Grammar) api.Grammar {
	a := again{old: g.Names, g: api.Grammar{Start: g.Start, Names: slices.Clone(g.Names)}}
	for _, r := range g.Rules {
		a.g.Rules = append(a.g.Rules, rule(r.Head, slices.Clone(r.Conj)...))
	}
	for i, r := range g.Rules {
		for k, c := range r.Conj {
			made := a.row(c.Seq)
			a.g.Rules[i].Conj[k].Seq = made
		}
	}
	return a.g
}

// wantAgain holds an answer against the chapter's sentence once more.
func wantAgain(t *testing.T, g api.Grammar) {
	t.Helper()
	if made := binAgain(g); gram.May(made) {
		want(t, g, made)
	} else {
		wantMany(t, "too many", g)
	}
}

// wantMeaning: P14.2: g's names have of a text what they had.
func wantMeaning(t *testing.T, g api.Grammar, w string) {
	t.Helper()
	b, e := bin.Bin(g)
	if e != api.OK {
		t.Fatalf("P14.2: Bin(%s): %d", brief(g), e)
	}
	before, e := mean.New(g, w)
	after, f := mean.New(b, w)
	if e != f {
		t.Fatalf("P14.2: %s, %q: %d, then %d", brief(g), w, e, f)
	}
	for name := range g.Names {
		for i := range len(w) + 1 {
			for j := i; j <= len(w); j++ {
				if had, has := before.Has(name, i, j), after.Has(name, i, j); had != has {
					t.Fatalf("P14.2: %s, %q: %d has %d to %d: %v, then %v", brief(g), w, name, i, j, had, has)
				}
			}
		}
	}
}

// wantMeanings holds the meaning of all texts of a, b and c up to so many
// bytes: all shorter ones are spans of those of so many.
func wantMeanings(t *testing.T, g api.Grammar, most int) {
	t.Helper()
	for _, w := range texts(most) {
		wantMeaning(t, g, w)
	}
}

// texts is all texts of a, b and c up to so many bytes.
func texts(most int) []string {
	all := []string{""}
	for from := 0; len(all[from]) < most; from++ {
		all = append(all, all[from]+"a", all[from]+"b", all[from]+"c")
	}
	return all
}
