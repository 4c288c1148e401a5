package mean

import (
	"slices"

	"temple/api"
	"temple/symbols"
)

// settleAll finds what names and rests have, level by level.
func (k *work) settleAll(levels []int) {
	for level := range slices.Max(levels) + 1 {
		k.settle(k.rulesOf(levels, level))
	}
}

// rulesOf is the rules of the names that stand at a level.
func (k *work) rulesOf(levels []int, level int) []int {
	var out []int
	for rule, r := range k.g.Rules {
		if levels[r.Head] == level {
			out = append(out, rule)
		}
	}
	return out
}

// settle finds what the names of some rules, all those of a level, have. Whether
// something has a span hangs on no span outside it: the inner ones go ahead.
func (k *work) settle(rules []int) {
	for i := k.length; i >= 0; i-- {
		for j := i; j <= k.length; j++ {
			changed := k.grow(rules, i, j)
			for changed != 0 {
				changed = k.grow(k.needing(rules, changed), i, j)
			}
		}
	}
}

// needing is those of the rules that need one of the changed names: the others
// say what they said.
func (k *work) needing(rules []int, changed nameSet) []int {
	var out []int
	for _, rule := range rules {
		if k.needs[rule]&changed != 0 {
			out = append(out, rule)
		}
	}
	return out
}

// grow takes up the rests that rules give a span by what is known, and the
// names, which it tells. What the rules negate is settled: it stands at lower
// levels.
func (k *work) grow(rules []int, i, j int) nameSet {
	var changed nameSet
	for _, rule := range rules {
		k.addRests(rule, i, j)
		head := k.g.Rules[rule].Head
		if !k.has[head].contains(i, j) && k.holds(rule, i, j) {
			k.has[head].add(i, j)
			changed |= 1 << head
		}
	}
	return changed
}

// addRests takes up the rests of a rule that have a span by what is known, from
// the ends on, as each leans on the one behind it.
func (k *work) addRests(rule, i, j int) {
	for conj, c := range k.g.Rules[rule].Conj {
		rest := k.whole[rule][conj] + len(c.Seq)
		if i == j {
			k.has[rest].add(i, j)
		}
		for _, s := range slices.Backward(c.Seq) {
			if k.leads(s, rest, i, j) {
				k.has[rest-1].add(i, j)
			}
			rest--
		}
	}
}

// leads: have a symbol and the rest behind it a span?
func (k *work) leads(s api.Symbol, behind int, i, j int) bool {
	if s.Name == symbols.NoName {
		return i < j && symbols.IsByte(s, k.w[i]) && k.has[behind].contains(i+1, j)
	}
	// The points at which the name may end and the rest begin.
	return k.has[s.Name].from[i]&k.has[behind].to[j] != 0
}
