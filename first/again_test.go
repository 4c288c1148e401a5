package first_test

import (
	"slices"
	"testing"

	"temple/api"
	"temple/samples"
)

// theEnd stands for End among the bytes that may come behind a name.
const theEnd = 256

// facts is of each name which numbers are its: bytes, theEnd among them.
type facts []map[int]int

func noFacts(names int) facts {
	f := make(facts, names)
	for i := range f {
		f[i] = make(map[int]int)
	}
	return f
}

// eachConjunct tells the conjuncts with their heads.
func eachConjunct(g api.Grammar, tell func(head int, seq []api.Symbol)) {
	for _, r := range g.Rules {
		for _, c := range r.Conj {
			tell(r.Head, c.Seq)
		}
	}
}

// vanishes: has a row but names that come to nothing?
func vanishes(seq []api.Symbol, empty []bool) bool {
	return !slices.ContainsFunc(seq, func(s api.Symbol) bool { return s.Name < 0 || !empty[s.Name] })
}

// seen is the symbols of a row up to and with the first that may not come to
// nothing.
func seen(seq []api.Symbol, empty []bool) []api.Symbol {
	for i := range seq {
		if !vanishes(seq[:i+1], empty) {
			return seq[:i+1]
		}
	}
	return seq
}

// wantAgain holds the answers against the chapter's sentences once more.
// Nobody asks there for sets that grow: a name has what stands at the heads of
// all names that it leads to.
func wantAgain(t *testing.T, g api.Grammar) {
	t.Helper()
	empty := emptyAgain(g)
	begins := firstAgain(g, empty)
	behind := followAgain(g, empty, begins)
	var sets []api.Bytes
	var follows []api.Follow
	for i := range g.Names {
		sets = append(sets, setOf(begins[i]))
		follows = append(follows, api.Follow{Bytes: setOf(behind[i]), End: behind[i][theEnd] > 0})
	}
	wantAll(t, g, empty, sets, follows)
}

func setOf(f map[int]int) api.Bytes {
	var bytes []byte
	for c := range f {
		if c != theEnd {
			bytes = append(bytes, byte(c))
		}
	}
	return set(string(bytes))
}

// emptyAgain is who comes to nothing in at most as many steps as there are
// names: a name that does needs none of itself.
func emptyAgain(g api.Grammar) []bool {
	empty := make([]bool, len(g.Names))
	for range g.Names {
		next := slices.Clone(empty)
		eachConjunct(g, func(head int, seq []api.Symbol) {
			next[head] = next[head] || vanishes(seq, empty)
		})
		empty = next
	}
	return empty
}

// reached is which names each one leads to, over any number of steps, itself
// among them.
func reached(names int, steps [][2]int) [][]bool {
	out := make([][]bool, names)
	for from := range out {
		out[from] = make([]bool, names)
		todo := []int{from}
		for len(todo) > 0 {
			at := todo[0]
			todo = todo[1:]
			if out[from][at] {
				continue
			}
			out[from][at] = true
			for _, s := range steps {
				if s[0] == at {
					todo = append(todo, s[1])
				}
			}
		}
	}
	return out
}

func firstAgain(g api.Grammar, empty []bool) facts {
	own := noFacts(len(g.Names))
	var steps [][2]int
	eachConjunct(g, func(head int, seq []api.Symbol) {
		for _, s := range seen(seq, empty) {
			if s.Name >= 0 {
				steps = append(steps, [2]int{head, s.Name})
				continue
			}
			for c := s.Lo; c <= s.Hi; c++ {
				own[head][c] = 1
			}
		}
	})
	return handOn(own, steps)
}

// handOn is what names have themselves or lead to.
func handOn(own facts, steps [][2]int) facts {
	out := noFacts(len(own))
	for from, to := range reached(len(own), steps) {
		for name, is := range to {
			if !is {
				continue
			}
			for c := range own[name] {
				out[from][c] = 1
			}
		}
	}
	return out
}

func followAgain(g api.Grammar, empty []bool, begins facts) facts {
	own := noFacts(len(g.Names))
	own[g.Start][theEnd] = 1
	var steps [][2]int
	eachConjunct(g, func(head int, seq []api.Symbol) {
		for i, name := range seq {
			if name.Name < 0 {
				continue
			}
			for _, s := range seen(seq[i+1:], empty) {
				for c := range 256 {
					if s.Name < 0 && s.Lo <= c && c <= s.Hi || s.Name >= 0 && begins[s.Name][c] > 0 {
						own[name.Name][c] = 1
					}
				}
			}
			if vanishes(seq[i+1:], empty) {
				steps = append(steps, [2]int{name.Name, head})
			}
		}
	})
	return handOn(own, steps)
}

// chosen is a set of facts, told by one number each.
type chosen []int

// leastOf is the least of the sets of so many facts that are closed: what all
// of them have in common.
func leastOf(n int, closed func(has chosen) bool) chosen {
	least := chosen(slices.Repeat([]int{1}, n))
	samples.EachChoice(n, 2, func(has []int) {
		if !closed(has) {
			return
		}
		for i := range least {
			least[i] &= has[i]
		}
	})
	return least
}

// smallBytes is the bytes of grammars that are held against all closed sets.
const smallBytes = "ab"

// wantLeast holds the answers of a small grammar against all closed sets there
// are.
func wantLeast(t *testing.T, g api.Grammar) {
	t.Helper()
	names := len(g.Names)
	leastEmpty := leastOf(names, func(has chosen) bool {
		ok := true
		eachConjunct(g, func(head int, seq []api.Symbol) {
			ok = ok && (has[head] == 1 || !vanishes(seq, marks(has)))
		})
		return ok
	})
	empty := marks(leastEmpty)
	width := len(smallBytes)
	begins := leastOf(names*width, func(has chosen) bool {
		ok := true
		eachConjunct(g, func(head int, seq []api.Symbol) {
			for c := range width {
				ok = ok && (has[head*width+c] == 1 || !comes(seq, c, empty, has))
			}
		})
		return ok
	})
	// The last one of each name's facts is End here.
	behind := leastOf(names*(width+1), func(has chosen) bool {
		return closedBehind(g, empty, begins, has)
	})
	var sets []api.Bytes
	var follows []api.Follow
	for i := range names {
		sets = append(sets, smallSet(begins[i*width:]))
		b := behind[i*(width+1):]
		follows = append(follows, api.Follow{Bytes: smallSet(b), End: b[width] == 1})
	}
	wantAll(t, g, empty, sets, follows)
}

func marks(has chosen) []bool {
	out := make([]bool, len(has))
	for i := range has {
		out[i] = has[i] == 1
	}
	return out
}

func smallSet(has chosen) api.Bytes {
	var bytes []byte
	for c := range smallBytes {
		if has[c] == 1 {
			bytes = append(bytes, smallBytes[c])
		}
	}
	return set(string(bytes))
}

// comes: may a byte come first of a row, by what is known?
func comes(seq []api.Symbol, c int, empty []bool, begins chosen) bool {
	return slices.ContainsFunc(seen(seq, empty), func(s api.Symbol) bool {
		if s.Name >= 0 {
			return begins[s.Name*len(smallBytes)+c] == 1
		}
		return s.Lo <= int(smallBytes[c]) && int(smallBytes[c]) <= s.Hi
	})
}

func closedBehind(g api.Grammar, empty []bool, begins, has chosen) bool {
	width := len(smallBytes)
	at := func(name, c int) bool { return has[name*(width+1)+c] == 1 }
	ok := at(g.Start, width)
	eachConjunct(g, func(head int, seq []api.Symbol) {
		for i, s := range seq {
			for c := 0; s.Name >= 0 && c <= width; c++ {
				needed := c < width && comes(seq[i+1:], c, empty, begins) ||
					vanishes(seq[i+1:], empty) && at(head, c)
				ok = ok && (at(s.Name, c) || !needed)
			}
		}
	})
	return ok
}

// TestAllSmallGrammars holds all grammars of two names and three small
// conjuncts against both readings.
func TestAllSmallGrammars(t *testing.T) {
	a, b := one('a'), one('b')
	conjuncts := []api.Conjunct{
		row(), rowNot(a), row(ref(0)), rowNot(ref(1)),
		row(ref(1), ref(0)), row(ref(0), b), rowNot(a, ref(1)), row(ref(1), b, ref(1)), row(ref(0), ref(1), a),
	}
	samples.EachChoice(3, len(conjuncts), func(chosen []int) {
		x, y, z := conjuncts[chosen[0]], conjuncts[chosen[1]], conjuncts[chosen[2]]
		for _, g := range []api.Grammar{
			named(2, rule(0, x), rule(1, y, z)),
			named(2, rule(0, x), rule(0, y), rule(1, z)),
		} {
			for start := range 2 {
				g.Start = start
				wantLeast(t, g)
				wantAgain(t, g)
			}
		}
	})
}

func TestMixedGrammars(t *testing.T) {
	r := samples.Numbers(12)
	for range 1000 {
		wantAgain(t, r.Grammar(5))
		wantAgain(t, r.Leveled(5))
	}
	for range 100 {
		wantAgain(t, r.Grammar(api.MaxNames))
	}
}

// TestMixedRows: long rows of many names that may come to nothing.
func TestMixedRows(t *testing.T) {
	r := samples.Numbers(120)
	for range 300 {
		g := named(2 + r.Next(9))
		for head := range g.Names {
			for range 1 + r.Next(2) {
				g.Rules = append(g.Rules, rule(head, mixedRow(&r, len(g.Names), r.Next(12))))
			}
			if r.Next(3) > 0 {
				g.Rules = append(g.Rules, rule(head, rowNot()))
			}
		}
		g.Start = r.Next(len(g.Names))
		wantAgain(t, g)
	}
}

// mixedRow is a row of names, and of a few bytes.
func mixedRow(r *samples.Numbers, names, length int) api.Conjunct {
	c := api.Conjunct{Neg: r.Next(2) == 0}
	for range length {
		if r.Next(6) == 0 {
			c.Seq = append(c.Seq, one(byte(r.Next(256))))
		} else {
			c.Seq = append(c.Seq, ref(r.Next(names)))
		}
	}
	return c
}

// TestGreatest: as many names, rules, conjuncts and symbols as there can be,
// with what is told wandering through all names, against the row of rules.
func TestGreatest(t *testing.T) {
	g := named(api.MaxNames)
	for i := range api.MaxNames {
		// All names come to nothing only one behind the other.
		next := row(ref(min(i+1, api.MaxNames-1)), ref(min(i+1, api.MaxNames-1)))
		if i == api.MaxNames-1 {
			next = row()
		}
		g.Rules = append(g.Rules, rule(i, next), rule(i, row(ref(max(i-1, 0)), one(byte(i)))))
		g.Rules = append(g.Rules, rule(i, slices.Repeat([]api.Conjunct{rowNot()}, api.MaxConj)...))
		g.Rules = append(g.Rules, rule(i, row(span(i, 255-i), ref(i))))
	}
	wantAgain(t, g)

	wide := named(api.MaxNames)
	for i := range api.MaxNames {
		var seq []api.Symbol
		for k := range api.MaxSymbols / api.MaxNames {
			seq = append(seq, ref((i+1+k*k)%api.MaxNames))
		}
		wide.Rules = append(wide.Rules, rule(i, row(seq...)))
	}
	wantAgain(t, wide)
	// What begins with nothing lets all wander; a rule more has no symbols.
	for i := range api.MaxNames {
		wide.Rules[i].Conj = append(wide.Rules[i].Conj, rowNot())
	}
	wide.Rules[7].Conj[0].Seq[3] = span(0, 255)
	wantAgain(t, wide)
	wide.Rules[8].Conj[1] = row(ref(0))
	wantNone(t, "one symbol too many", wide)

	full := row(slices.Repeat([]api.Symbol{ref(0)}, api.MaxSeq)...)
	full.Seq[api.MaxSeq/2] = one('m')
	half := rule(0, slices.Repeat([]api.Conjunct{full}, api.MaxConj)...)
	want(t, named(1, half, half), says{end: true, follow: "m"})
	want(t, named(1, half, half, rule(0, row())), says{empty: true, first: "m", end: true, follow: "m"})
	wantNone(t, "one symbol too many in few rules", named(1, half, half, rule(0, row(ref(0)))))
}
