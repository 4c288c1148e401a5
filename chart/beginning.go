package chart

import (
	"temple/points"
	"temple/symbols"
)

// open makes the last point's set, in which nothing is begun yet.
func (e *Engine) open() {
	e.sets[e.length] = make(set, len(e.plan.Places))
	clear(e.ended[:])
}

// begin begins a name at the last point: all conjuncts of its rules, the negated
// ones too, as it must be known of them whether they end. If the name has the
// empty text, it ends there at once: this hangs on no byte.
func (e *Engine) begin(name int) {
	if e.isBegun(name, e.length) {
		return
	}
	if e.empty[name] {
		e.ended[name] |= points.One(e.length)
	}
	for _, p := range e.plan.Begins[name] {
		e.reach(p, points.One(e.length))
	}
}

// isBegun: was a name begun at a point?
func (e *Engine) isBegun(name, point int) bool {
	first := e.plan.Begins[name][0]
	return e.sets[point][first].Has(point)
}

// reach takes up that conjuncts begun at some points have come up to a place at
// the last point. The name that stands there is begun, and passed at once, if it
// has the empty text: nobody waits for a span of no bytes.
func (e *Engine) reach(p int, begun points.Set) {
	here := e.sets[e.length]
	fresh := begun &^ here[p]
	here[p] |= fresh
	name, ok := e.plan.NameAt(p)
	if fresh == 0 || !ok {
		return
	}
	e.begin(name)
	if e.empty[name] {
		e.reach(p+1, fresh)
	}
}

// read brings conjuncts over the last byte, from the point ahead of it.
func (e *Engine) read(c byte) {
	for p, begun := range e.sets[e.length-1] {
		if symbols.IsByte(e.plan.Places[p].Symbol, c) {
			e.reach(p+1, begun)
		}
	}
}
