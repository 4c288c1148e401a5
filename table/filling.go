package table

import (
	"temple/api"
	"temple/engines"
	"temple/points"
	"temple/symbols"
)

// noLevel is told ahead of the first level: no rule stands at it.
const noLevel = -1

// filling is the last column while it is being filled. Names and rests pass on
// only what is new to them: this keeps the steps within their bound, however
// long the rings of names are.
type filling struct {
	*Engine
	// rests is of each place the points at which those of its rest's spans
	// begin that end at the column's point.
	rests []points.Set
	// level is the one that is being settled.
	level int
	// waiting is what names have and did not pass on yet.
	waiting []growth
}

// growth is points that are new to a name.
type growth struct {
	name int
	set  points.Set
}

// fill fills the last column: level by level, as what a rule negates stands at
// lower ones.
func (e *Engine) fill() {
	f := &filling{Engine: e, rests: make([]points.Set, len(e.plan.Places)), level: noLevel}
	for _, r := range e.plan.Rules {
		for _, c := range r.Conj {
			f.addRest(c.End, points.One(e.length))
		}
	}
	for level, rules := range e.plan.Levels {
		f.level = level
		f.settle(rules)
	}
}

// settle finds what the names of a level have, by all of their rules.
func (f *filling) settle(rules []int) {
	for _, n := range rules {
		f.apply(f.plan.Rules[n])
	}
	for len(f.waiting) > 0 {
		last := len(f.waiting) - 1
		next := f.waiting[last]
		f.waiting = f.waiting[:last]
		f.passOn(next)
	}
}

// apply gives a rule's head what all of its conjuncts together say.
func (f *filling) apply(r engines.Rule) {
	holds := points.UpTo(f.length)
	for _, c := range r.Conj {
		f.steps++
		if c.Neg {
			holds &^= f.rests[c.First]
		} else {
			holds &= f.rests[c.First]
		}
	}
	f.addName(r.Head, holds)
}

// addName gives a name points.
func (f *filling) addName(name int, set points.Set) {
	has := &f.columns[f.length][name]
	if fresh := set &^ *has; fresh != 0 {
		*has |= fresh
		f.waiting = append(f.waiting, growth{name, fresh})
	}
}

// passOn gives points of a name to the rests at whose places it stands. As these
// spans of the name end where the column does, the rest behind it must have the
// empty one there.
func (f *filling) passOn(g growth) {
	for _, p := range f.plan.Stands[g.name] {
		f.steps++
		if f.rests[p+1].Has(f.length) {
			f.addRest(p, g.set)
		}
	}
}

// addRest gives the rest at a place points, and those ahead of it in its
// conjunct what they have by that.
func (f *filling) addRest(p int, set points.Set) {
	for {
		fresh := set &^ f.rests[p]
		if fresh == 0 {
			return
		}
		f.rests[p] |= fresh
		if f.plan.Places[p].IsFirst {
			f.whole(f.plan.Places[p].Rule)
			return
		}
		p--
		set = f.ahead(f.plan.Places[p].Symbol, fresh)
	}
}

// whole applies a rule of which a conjunct has more as a whole, unless its
// level is still to come: all rules of that are applied then.
func (f *filling) whole(n int) {
	if r := f.plan.Rules[n]; r.Level == f.level {
		f.apply(r)
	}
}

// ahead is the points at which a symbol's spans begin that end at one of some
// points.
func (f *filling) ahead(s api.Symbol, ends points.Set) points.Set {
	var out points.Set
	for end := range ends.All() {
		f.steps++
		out |= f.begins(s, end)
	}
	return out
}

// begins is the points at which a symbol's spans begin that end at a point.
func (f *filling) begins(s api.Symbol, end int) points.Set {
	if s.Name != symbols.NoName {
		return f.columns[end][s.Name]
	}
	if end > 0 && symbols.IsByte(s, f.text[end-1]) {
		return points.One(end - 1)
	}
	return 0
}
