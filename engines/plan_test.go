package engines_test

import (
	"slices"
	"testing"

	"temple/engines"
	"temple/samples"
	"temple/seqs"
)

// laid is the plan of a grammar that has one.
func laid(t *testing.T, text string) *engines.Plan {
	t.Helper()
	p, ok := engines.Lay(samples.Read(text))
	if p == nil || !ok {
		t.Fatalf("%s: no plan", text)
	}
	return p
}

func TestPlan(t *testing.T) {
	p := laid(t, `start T; S = "a" T & ~ "" | T; T = S S | 'a'..'b' U; U = "";`)
	if p.Start != 1 || len(p.Levels) != 1 {
		t.Errorf("start %d, %d levels", p.Start, len(p.Levels))
	}
	want := []engines.Conjunct{{First: 0, End: 2}, {First: 3, End: 3, Neg: true}, {First: 4, End: 5}, {First: 6, End: 8}, {First: 9, End: 11}, {First: 12, End: 12}}
	var got []engines.Conjunct
	for _, r := range p.Rules {
		got = append(got, r.Conj...)
	}
	if !slices.Equal(got, want) {
		t.Errorf("conjuncts %v", got)
	}
	for name, places := range [][2][]int{{{0, 3, 4}, {6, 7}}, {{6, 9}, {1, 4}}, {{12}, {10}}} {
		if !slices.Equal(p.Begins[name], places[0]) || !slices.Equal(p.Stands[name], places[1]) {
			t.Errorf("name %d begins at %v, stands at %v", name, p.Begins[name], p.Stands[name])
		}
	}
}

func TestPlanOfLevels(t *testing.T) {
	p := laid(t, `start S; S = ~ T; T = ~ U | V; U = "a" | V; V = U; W = ~ T | S;`)
	want := [][]int{{3, 4, 5}, {1, 2}, {0, 6, 7}}
	if !slices.EqualFunc(p.Levels, want, slices.Equal) {
		t.Errorf("%v", p.Levels)
	}
	for level, rules := range want {
		for _, n := range rules {
			if p.Rules[n].Level != level {
				t.Errorf("rule %d: level %d", n, p.Rules[n].Level)
			}
		}
	}
}

// TestPlanOfPlaces: places stand in the row of layer 10, each with what stands at
// it.
func TestPlanOfPlaces(t *testing.T) {
	r := samples.Numbers(163)
	for range 1000 {
		g := r.Leveled(6)
		p, _ := engines.Lay(g)
		places, _ := seqs.Places(g)
		if len(p.Places) != len(places) {
			t.Fatalf("%v: %d places", g, len(p.Places))
		}
		for n, at := range places {
			seq := g.Rules[at.Rule].Conj[at.Conj].Seq
			want := engines.Place{Rule: at.Rule, IsFirst: at.Pos == 0, IsEnd: at.Pos == len(seq)}
			if !want.IsEnd {
				want.Symbol = seq[at.Pos]
			}
			name, ok := p.NameAt(n)
			if p.Places[n] != want || ok != (!want.IsEnd && want.Symbol.Name >= 0) || ok && name != want.Symbol.Name {
				t.Fatalf("%v: place %d: %v, %d, %v", g, n, p.Places[n], name, ok)
			}
		}
	}
}

func TestNoPlan(t *testing.T) {
	for _, s := range samples.MayNotBe() {
		if p, ok := engines.Lay(s.Grammar); p != nil || ok {
			t.Errorf("%s: %v", s.What, p)
		}
	}
	if p, ok := engines.Lay(samples.Read(`start S; S = T; T = ~ S;`)); p != nil || ok {
		t.Errorf("a cycle: %v", p)
	}
}
