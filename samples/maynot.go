package samples

import (
	"math"
	"slices"
	"strings"

	"temple/api"
)

// Spoiled is a grammar that may not be, and why.
type Spoiled struct {
	What    string
	Grammar api.Grammar
}

// MayNotBe is grammars that may not be: Plain, with one of chapter 4's
// conditions broken in each.
func MayNotBe() []Spoiled {
	var all spoiling
	all.wholes()
	all.names()
	all.starts()
	all.rules()
	all.symbols()
	return all.list
}

// Great is grammars that may not be, as they are far too much.
func Great() []Spoiled {
	const much = 1 << 20
	var all spoiling
	all.name("a long name", strings.Repeat("n", much))
	all.row("many symbols", slices.Repeat([]api.Symbol{Ref(0)}, much)...)
	g := Plain()
	g.Names = slices.Repeat([]string{"S"}, much)
	all.add("many names", g)
	g = Plain()
	g.Rules[0].Conj = slices.Repeat([]api.Conjunct{Row()}, much)
	all.add("many conjuncts", g)
	g = Plain()
	g.Rules = slices.Insert(g.Rules, 0, slices.Repeat([]api.Rule{Rule(0, Row())}, much)...)
	all.add("many rules", g)
	return all.list
}

// spoiling is the grammars that are spoiled so far.
type spoiling struct {
	list []Spoiled
}

func (s *spoiling) add(what string, g api.Grammar) {
	s.list = append(s.list, Spoiled{What: what, Grammar: g})
}

func (s *spoiling) wholes() {
	s.add("nothing", api.Grammar{})
	g := Plain()
	g.Names = nil
	s.add("no names", g)
	g = Plain()
	g.Rules = nil
	s.add("no rules", g)
	g = Named(api.MaxNames + 1)
	for i := range g.Names {
		g.Rules = append(g.Rules, Rule(i, Row()))
	}
	s.add("too many names", g)
	g = Plain()
	g.Rules = slices.Insert(g.Rules, 0, slices.Repeat([]api.Rule{Rule(0, Row())}, api.MaxRules-2)...)
	s.add("too many rules", g)
	g = Plain()
	full := Row(slices.Repeat([]api.Symbol{Ref(0)}, api.MaxSeq)...)
	half := Rule(0, slices.Repeat([]api.Conjunct{full}, api.MaxConj)...)
	g.Rules = slices.Insert(g.Rules, 0, half, half)
	s.add("too many symbols in all", g)
}

func (s *spoiling) names() {
	g := Plain()
	g.Names = g.Names[:1]
	s.add("a name too few", g)
	g = Plain()
	g.Names = append(g.Names, "U")
	s.add("a name without a rule", g)
	s.name("two names the same", "S")
	s.name("the name start", "start")
	s.name("the name of no bytes", "")
	s.name("a name with a digit ahead", "1T")
	s.name("a name with a blank", "T ")
	s.name("a name with what would be read", "T = S; U")
	s.name("a name too long", strings.Repeat("n", api.MaxName+1))
}

// name adds Plain with another name.
func (s *spoiling) name(what string, name string) {
	g := Plain()
	g.Names[1] = name
	s.add(what, g)
}

func (s *spoiling) starts() {
	s.start("a start below", -1)
	s.start("a start above", 2)
	s.start("the smallest start", math.MinInt)
	s.start("the greatest start", math.MaxInt)
}

// start adds Plain with another start.
func (s *spoiling) start(what string, start int) {
	g := Plain()
	g.Start = start
	s.add(what, g)
}

func (s *spoiling) rules() {
	s.heads("heads that fall", 1, 0)
	s.heads("a head below", -1, 1)
	s.heads("a head above", 0, 2)
	s.heads("the smallest head", math.MinInt, 1)
	s.heads("the greatest head", 0, math.MaxInt)
	g := Plain()
	g.Rules[1].Conj = nil
	s.add("no conjunct", g)
	g = Plain()
	g.Rules[1].Conj = slices.Repeat([]api.Conjunct{Row()}, api.MaxConj+1)
	s.add("too many conjuncts", g)
}

// heads adds Plain with other heads of its first and last rule.
func (s *spoiling) heads(what string, first int, last int) {
	g := Plain()
	g.Rules[0].Head, g.Rules[2].Head = first, last
	s.add(what, g)
}

func (s *spoiling) symbols() {
	s.row("too many symbols", slices.Repeat([]api.Symbol{Ref(0)}, api.MaxSeq+1)...)
	s.row("a symbol's name above", Ref(2))
	s.row("a symbol's name below", Ref(-2))
	s.row("a symbol's name far above", Ref(math.MaxInt))
	s.row("a symbol's name far below", Ref(math.MinInt))
	s.row("a name with Lo", api.Symbol{Name: 1, Lo: 1})
	s.row("a name with Hi", api.Symbol{Name: 1, Hi: 1})
	s.row("a range the wrong way", Span(2, 1))
	s.row("a range below", Span(-1, 1))
	s.row("a range above", Span(1, 256))
	s.row("a byte below", Span(-1, -1))
	s.row("a byte above", Span(256, 256))
	s.row("a fault behind other symbols", Ref(0), Span(0, 255), Span(0, 256))
	g := Plain()
	g.Rules[2].Conj[0].Seq[1] = Span(0, 256)
	s.add("a fault in the last conjunct", g)
}

// row adds Plain with symbols where it has none.
func (s *spoiling) row(what string, symbols ...api.Symbol) {
	g := Plain()
	g.Rules[1].Conj[0] = Row(symbols...)
	s.add(what, g)
}
