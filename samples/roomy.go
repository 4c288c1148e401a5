package samples

import (
	"slices"

	"temple/api"
)

// mark is the number of a name that no grammar has.
const mark = 77

// Roomy is g in lists of its own, each with spare room that holds what would
// be seen.
func Roomy(g api.Grammar) api.Grammar {
	out := api.Grammar{Start: g.Start, Names: roomy(g.Names, "mark")}
	out.Rules = roomy(g.Rules, Rule(mark, RowNot(Ref(mark))))
	for i, r := range out.Rules {
		conj := roomy(r.Conj, RowNot(Ref(mark)))
		for j, c := range conj {
			conj[j].Seq = roomy(c.Seq, Ref(mark))
		}
		out.Rules[i].Conj = conj
	}
	return out
}

// roomy is a list with room for two more, where marks stand.
func roomy[T any](list []T, mark T) []T {
	out := make([]T, 0, len(list)+2)
	out = append(out, list...)
	out = append(out, mark, mark)
	return out[:len(list)]
}

// Overwrite changes all of a grammar that can be changed in its lists.
func Overwrite(g api.Grammar) {
	for _, r := range g.Rules {
		for c := range r.Conj {
			clear(r.Conj[c].Seq)
			r.Conj[c] = api.Conjunct{Neg: !r.Conj[c].Neg}
		}
	}
	clear(g.Rules)
	clear(g.Names)
}

// Same: are two grammars the same, the spare room of their lists too?
func Same(a, b api.Grammar) bool {
	return a.Start == b.Start && len(a.Names) == len(b.Names) && len(a.Rules) == len(b.Rules) &&
		slices.Equal(whole(a.Names), whole(b.Names)) &&
		slices.EqualFunc(whole(a.Rules), whole(b.Rules), sameRule)
}

func sameRule(a, b api.Rule) bool {
	return a.Head == b.Head && len(a.Conj) == len(b.Conj) &&
		slices.EqualFunc(whole(a.Conj), whole(b.Conj), sameConjunct)
}

func sameConjunct(a, b api.Conjunct) bool {
	return a.Neg == b.Neg && len(a.Seq) == len(b.Seq) &&
		slices.Equal(whole(a.Seq), whole(b.Seq))
}

// whole is a list with its spare room.
func whole[T any](list []T) []T {
	return list[:cap(list)]
}
