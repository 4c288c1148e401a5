package chart

import (
	"temple/engines"
	"temple/points"
)

// ending is the search for the names that were begun at a point and end at the
// last one.
type ending struct {
	*Engine
	from int
	// todo is the numbers of rules that may hold by what was found.
	todo []int
}

// end finds all names that end at the last point. Such a span hangs on those
// within it that end there, too: the ones that begin later go ahead.
func (e *Engine) end() {
	for from := e.length - 1; from >= 0; from-- {
		x := &ending{Engine: e, from: from}
		for _, rules := range e.plan.Levels {
			x.settle(rules)
		}
	}
}

// settle finds the names of a level, by all of their rules. What these negate
// stands at lower levels: it has ended, or never will.
func (x *ending) settle(rules []int) {
	x.todo = append(x.todo, rules...)
	for len(x.todo) > 0 {
		last := len(x.todo) - 1
		r := x.plan.Rules[x.todo[last]]
		x.todo = x.todo[:last]
		if x.isBegun(r.Head, x.from) && !x.ended[r.Head].Has(x.from) && x.holds(r) {
			x.pass(r)
		}
	}
}

// holds: does a rule hold of the span, by the ends that its conjuncts have come
// up to?
func (x *ending) holds(r engines.Rule) bool {
	here := x.sets[x.length]
	for _, c := range r.Conj {
		if here[c.End].Has(x.from) == c.Neg {
			return false
		}
	}
	return true
}

// pass takes up that a rule's head ends, and brings all that waits for it since
// the point at which it was begun over it. What was begun there, too, may make
// other rules of the level hold.
func (x *ending) pass(r engines.Rule) {
	x.ended[r.Head] |= points.One(x.from)
	for _, p := range x.plan.Stands[r.Head] {
		waiting := x.sets[x.from][p]
		x.reach(p+1, waiting)
		n := x.plan.Places[p].Rule
		if waiting.Has(x.from) && x.plan.Rules[n].Level == r.Level {
			x.todo = append(x.todo, n)
		}
	}
}
