package samples_test

import (
	"slices"
	"testing"

	"temple/api"
	"temple/gram"
	"temple/samples"
	"temple/seqs"
	"temple/strata"
)

func TestPlainMayBe(t *testing.T) {
	if !gram.May(samples.Plain()) {
		t.Errorf("%v may not be", samples.Plain())
	}
}

func TestSpoiledMayNotBe(t *testing.T) {
	seen := make(map[string]int)
	for _, s := range append(samples.MayNotBe(), samples.Great()...) {
		if gram.May(s.Grammar) {
			t.Errorf("%s: %v may be", s.What, s.Grammar)
		}
		if seen[s.What]++; seen[s.What] > 1 {
			t.Errorf("%s: twice", s.What)
		}
	}
	if len(seen) < 30 {
		t.Errorf("%d grammars", len(seen))
	}
}

func TestMixedMayBe(t *testing.T) {
	r := samples.Numbers(1)
	for range 1000 {
		if g := r.Grammar(api.MaxNames); !gram.May(g) {
			t.Fatalf("%v may not be", g)
		}
	}
}

// TestLeveledHasLevels: no cycle has a negation, and there are some.
func TestLeveledHasLevels(t *testing.T) {
	r := samples.Numbers(2)
	high, negated := 0, 0
	for range 1000 {
		g := r.Leveled(6)
		levels, _, e := strata.Strata(g)
		if e != api.OK {
			t.Fatalf("%v: %d", g, e)
		}
		if top := slices.Max(levels); top > 0 {
			negated++
			high = max(high, top)
		}
	}
	if high < 3 || negated < 300 {
		t.Errorf("%d with levels, up to %d", negated, high)
	}
}

func TestTextsAreShort(t *testing.T) {
	r := samples.Numbers(3)
	lengths := make(map[int]int)
	for range 1000 {
		w := r.Text(5)
		lengths[len(w)]++
		for _, c := range []byte(w) {
			if c < 'a' || c > 'c' {
				t.Fatalf("%q", w)
			}
		}
	}
	for n := range 6 {
		if lengths[n] == 0 {
			t.Errorf("no text of %d bytes", n)
		}
	}
	if len(lengths) != 6 {
		t.Errorf("%v", lengths)
	}
}

// TestMixedTextIsMixed: it is as long as can be, and has all pieces of two bytes.
func TestMixedTextIsMixed(t *testing.T) {
	pieces := make(map[string]int)
	for i := range len(samples.MixedText) - 1 {
		pieces[samples.MixedText[i:i+2]]++
	}
	if len(samples.MixedText) != api.MaxInput || len(pieces) != 9 {
		t.Errorf("%d bytes, %v", len(samples.MixedText), pieces)
	}
}

// TestRoomyShowsChanges: a change in any list, and in the spare room of any,
// is seen.
func TestRoomyShowsChanges(t *testing.T) {
	fresh := func() api.Grammar { return samples.Roomy(samples.Plain()) }
	if !samples.Same(fresh(), fresh()) || !gram.May(fresh()) {
		t.Fatalf("%v, %v", fresh(), fresh())
	}
	for what, change := range map[string]func(g *api.Grammar){
		"the start":                   func(g *api.Grammar) { g.Start = 0 },
		"fewer names":                 func(g *api.Grammar) { g.Names = g.Names[:1] },
		"a name":                      func(g *api.Grammar) { g.Names[1] = "U" },
		"spare room of names":         func(g *api.Grammar) { g.Names = append(g.Names, "U")[:2] },
		"fewer rules":                 func(g *api.Grammar) { g.Rules = g.Rules[:2] },
		"a head":                      func(g *api.Grammar) { g.Rules[1].Head = 1 },
		"spare room of rules":         func(g *api.Grammar) { g.Rules = append(g.Rules, api.Rule{})[:3] },
		"fewer conjuncts":             func(g *api.Grammar) { g.Rules[0].Conj = g.Rules[0].Conj[:1] },
		"a sign":                      func(g *api.Grammar) { g.Rules[0].Conj[0].Neg = true },
		"spare room of conjuncts":     func(g *api.Grammar) { _ = append(g.Rules[2].Conj, samples.Row()) },
		"fewer symbols":               func(g *api.Grammar) { g.Rules[0].Conj[0].Seq = nil },
		"a symbol":                    func(g *api.Grammar) { g.Rules[0].Conj[0].Seq[0] = samples.Ref(0) },
		"spare room of symbols":       func(g *api.Grammar) { _ = append(g.Rules[2].Conj[0].Seq, samples.Ref(0)) },
		"spare room of an empty list": func(g *api.Grammar) { _ = append(g.Rules[1].Conj[0].Seq, samples.Ref(0)) },
	} {
		g := fresh()
		change(&g)
		if samples.Same(g, fresh()) || samples.Same(fresh(), g) {
			t.Errorf("%s: not seen", what)
		}
	}
}

// TestRoomyIsApart: whoever changes what Roomy answers changes nothing else.
func TestRoomyIsApart(t *testing.T) {
	g := samples.Plain()
	h := samples.Roomy(g)
	h.Names[0], h.Rules[0].Head, h.Rules[1].Conj[0].Neg = "X", 1, true
	h.Rules[0].Conj[0].Seq[0] = samples.Ref(0)
	if !samples.Same(samples.Roomy(g), samples.Roomy(samples.Plain())) {
		t.Errorf("%v", g)
	}
}

// TestOverwriteLeavesNothing: no list keeps anything that it had.
func TestOverwriteLeavesNothing(t *testing.T) {
	g := samples.Plain()
	rules, seq := slices.Clone(g.Rules), g.Rules[0].Conj[0].Seq
	samples.Overwrite(g)
	for _, n := range g.Names {
		if n != "" {
			t.Errorf("the name %q", n)
		}
	}
	for i, r := range g.Rules {
		if r.Head != 0 || r.Conj != nil {
			t.Errorf("rule %d: %v", i, r)
		}
		for j, c := range rules[i].Conj {
			if c.Seq != nil || c.Neg == samples.Plain().Rules[i].Conj[j].Neg {
				t.Errorf("rule %d, conjunct %d: %v", i, j, c)
			}
		}
	}
	if slices.ContainsFunc(seq, func(s api.Symbol) bool { return s != api.Symbol{} }) {
		t.Errorf("the symbols %v", seq)
	}
}

// TestGreatestIsGreatest: it may be, has levels, and has no room for more.
func TestGreatestIsGreatest(t *testing.T) {
	g := samples.Greatest()
	if _, _, e := strata.Strata(g); e != api.OK {
		t.Fatalf("%d", e)
	}
	if len(g.Names) != api.MaxNames || len(g.Rules) != api.MaxRules {
		t.Errorf("%d names, %d rules", len(g.Names), len(g.Rules))
	}
	if got, most := seqs.Count(g), api.MaxSymbols+api.MaxRules*api.MaxConj; got != most {
		t.Errorf("%d places, not %d", got, most)
	}
}

// TestHeavyMayBe: heavy grammars have levels, and each is at some limit.
func TestHeavyMayBe(t *testing.T) {
	for i, g := range samples.Heavy() {
		if _, _, e := strata.Strata(g); e != api.OK {
			t.Errorf("grammar %d: %d", i, e)
		}
		if most := len(g.Rules[0].Conj[0].Seq); len(g.Names) != api.MaxNames && most != api.MaxSeq {
			t.Errorf("grammar %d: %d names, %d symbols", i, len(g.Names), most)
		}
	}
}

func TestReadGrammars(t *testing.T) {
	if g := samples.Read(`start S; S = "a" S | "";`); !gram.May(g) || len(g.Rules) != 2 {
		t.Errorf("%v", g)
	}
	for _, text := range []string{"", "start S; S = ", "start S; S = T;"} {
		if g := samples.Read(text); gram.May(g) {
			t.Errorf("%q: %v may be", text, g)
		}
	}
}

// TestAnyNumbersAreBoth: some of them make what may be, some do not.
func TestAnyNumbersAreBoth(t *testing.T) {
	may, all := 0, samples.AnyNumbers()
	for _, g := range all {
		if gram.May(g) {
			may++
		}
	}
	if may < 10 || may > len(all)-1000 {
		t.Errorf("%d of %d may be", may, len(all))
	}
}

func TestEachOrderAndChoice(t *testing.T) {
	orders, choices := make(map[[3]int]int), make(map[[3]int]int)
	samples.EachOrder(3, func(order []int) { orders[[3]int(order)]++ })
	samples.EachChoice(3, 4, func(chosen []int) { choices[[3]int(chosen)]++ })
	if len(orders) != 6 || len(choices) != 64 || orders[[3]int{2, 0, 1}] != 1 || choices[[3]int{3, 0, 3}] != 1 {
		t.Errorf("%v, %v", orders, choices)
	}
	count := 0
	samples.EachOrder(0, func([]int) { count++ })
	samples.EachChoice(0, 3, func([]int) { count++ })
	if count != 2 {
		t.Errorf("%d rows of no numbers", count)
	}
}

// TestCertsFit: their numbers fit, and nothing stands where a kind has nothing; both
// kinds are there, and numbers at both ends.
func TestCertsFit(t *testing.T) {
	r := samples.Numbers(4)
	kinds, least, greatest := make(map[int]int), 0, 0
	for range 1000 {
		c := r.Cert()
		for _, n := range c.Nodes {
			kinds[n.Kind]++
			if n.Kind == api.NodeName && n.Place != (api.Place{}) || n.Kind == api.NodeSeq && n.Name != 0 {
				t.Fatalf("%v", n)
			}
			if n.I < 0 || n.I > 255 || n.Rank < 0 || n.Rank > 1<<32-1 || n.Name > 65535 || n.Place.Rule > 65535 {
				t.Fatalf("%v", n)
			}
			if n.Rank == 0 {
				least++
			}
			if n.Rank == 1<<32-1 {
				greatest++
			}
		}
	}
	if len(kinds) != 2 || kinds[api.NodeName] < 500 || kinds[api.NodeSeq] < 500 || least < 100 || greatest < 100 {
		t.Errorf("%v, %d, %d", kinds, least, greatest)
	}
}

// twoNodes is a proof's form with lists of all kinds, empty ones too.
func twoNodes() api.Cert {
	return api.Cert{Root: 1, Nodes: []api.Node{
		{Kind: api.NodeSeq, Picks: []api.Pick{{At: 1, Kids: []int{2, 3}}, {}}},
		{Sign: true},
	}}
}

// TestRoomyCertShowsChanges: a change in any list, and in the spare room of any,
// is seen.
func TestRoomyCertShowsChanges(t *testing.T) {
	fresh := func() api.Cert { return samples.RoomyCert(twoNodes()) }
	if !samples.SameCert(fresh(), fresh()) {
		t.Fatalf("%v, %v", fresh(), fresh())
	}
	for what, change := range map[string]func(c *api.Cert){
		"the root":                    func(c *api.Cert) { c.Root = 0 },
		"fewer nodes":                 func(c *api.Cert) { c.Nodes = c.Nodes[:1] },
		"a sign":                      func(c *api.Cert) { c.Nodes[1].Sign = false },
		"a kind":                      func(c *api.Cert) { c.Nodes[0].Kind = api.NodeName },
		"a name":                      func(c *api.Cert) { c.Nodes[0].Name = 1 },
		"a place":                     func(c *api.Cert) { c.Nodes[0].Place.Pos = 1 },
		"an I":                        func(c *api.Cert) { c.Nodes[1].I = 1 },
		"a J":                         func(c *api.Cert) { c.Nodes[1].J = 1 },
		"a rank":                      func(c *api.Cert) { c.Nodes[1].Rank = 1 },
		"spare room of nodes":         func(c *api.Cert) { _ = append(c.Nodes, api.Node{}) },
		"fewer picks":                 func(c *api.Cert) { c.Nodes[0].Picks = c.Nodes[0].Picks[:1] },
		"an At":                       func(c *api.Cert) { c.Nodes[0].Picks[1].At = 1 },
		"a pick's Conj":               func(c *api.Cert) { c.Nodes[0].Picks[1].Conj = 1 },
		"spare room of picks":         func(c *api.Cert) { _ = append(c.Nodes[0].Picks, api.Pick{}) },
		"fewer kids":                  func(c *api.Cert) { c.Nodes[0].Picks[0].Kids = nil },
		"a kid":                       func(c *api.Cert) { c.Nodes[0].Picks[0].Kids[1] = 4 },
		"spare room of kids":          func(c *api.Cert) { _ = append(c.Nodes[0].Picks[0].Kids, 4) },
		"spare room of an empty list": func(c *api.Cert) { _ = append(c.Nodes[1].Picks, api.Pick{}) },
	} {
		c := fresh()
		change(&c)
		if samples.SameCert(c, fresh()) || samples.SameCert(fresh(), c) {
			t.Errorf("%s: not seen", what)
		}
	}
}

// TestRoomyCertIsApart: whoever overwrites what RoomyCert answers changes nothing
// else, and nothing is left there.
func TestRoomyCertIsApart(t *testing.T) {
	c := twoNodes()
	d := samples.RoomyCert(c)
	picks, kids := d.Nodes[0].Picks, d.Nodes[0].Picks[0].Kids
	samples.OverwriteCert(d)
	if !samples.SameCert(samples.RoomyCert(c), samples.RoomyCert(twoNodes())) {
		t.Errorf("%v", c)
	}
	for i, n := range d.Nodes[:cap(d.Nodes)] {
		if n.Kind != -1 || n.Sign || len(n.Picks) != 1 {
			t.Errorf("node %d: %v", i, n)
		}
	}
	for i, p := range picks[:cap(picks)] {
		if p.At != -1 {
			t.Errorf("pick %d: %v", i, p)
		}
	}
	if slices.ContainsFunc(kids[:cap(kids)], func(kid int) bool { return kid != -1 }) {
		t.Errorf("the kids %v", kids[:cap(kids)])
	}
}
