package both_test

import (
	"fmt"
	"math"
	"testing"

	"temple/api"
	"temple/both"
	"temple/mean"
	"temple/samples"
)

// What a pair has of its engines is tested with them in package engines; here
// stands what is asked of a pair alone.

// numbers is the three that In takes.
func numbers() []int {
	return []int{api.EngineTable, api.EngineChart, api.EngineBoth}
}

// noNumbers is some that it does not take.
func noNumbers() []int {
	out := []int{math.MinInt, math.MinInt32, -1 << 32, 1 << 8, 1 << 16, 1 << 32, 1<<32 + api.EngineChart, 1 << 40, math.MaxInt}
	for i := range 100 {
		out = append(out, -1-i, api.EngineBoth+1+i)
	}
	return out
}

// brief tells the beginning of something that may be long.
func brief(x any) string {
	return fmt.Sprintf("%.300s", fmt.Sprint(x))
}

// made is the pair of a grammar that has one.
func made(t *testing.T, g api.Grammar) *both.Pair {
	t.Helper()
	p, e := both.New(g)
	if p == nil || e != api.OK {
		t.Fatalf("P17.1: New(%s) = %v, %d", brief(g), p != nil, e)
	}
	return p
}

// wantIn: P17.1: what each of the numbers is told, whichever was asked ahead.
func wantIn(t *testing.T, p *both.Pair, want bool) {
	t.Helper()
	samples.EachOrder(3, func(order []int) {
		for _, i := range order {
			number := numbers()[i]
			if in, e := p.In(number); in != want || e != api.OK {
				t.Fatalf("P17.1: %d bytes, In(%d) = %v, %d, not %v", p.Len(), number, in, e, want)
			}
		}
	})
}

// wantArg: P17.1: a number that is none of them is told nothing.
func wantArg(t *testing.T, p *both.Pair, number int) {
	t.Helper()
	if in, e := p.In(number); in || e != api.ErrBothArg {
		t.Errorf("P17.1: %d bytes, In(%d) = %v, %d", p.Len(), number, in, e)
	}
}

func TestEachNumber(t *testing.T) {
	p := made(t, samples.Read(`start S; S = A & ~ "aa"; A = "a" A | "";`))
	wantIn(t, p, true)
	for n, want := range []bool{true, false, true, true} {
		if e := p.Feed('a'); e != api.OK || p.Len() != n+1 {
			t.Fatalf("P17.1: Feed = %d: %d bytes", e, p.Len())
		}
		wantIn(t, p, want)
	}
	p.Feed('b')
	wantIn(t, p, false)
}

// TestNoNumbers: what is asked of no engine is refused behind each byte, whatever
// the start has, and (R5) turns nothing.
func TestNoNumbers(t *testing.T) {
	for _, c := range []struct {
		text string
		in   bool
	}{
		{`start S; S = 'a'..'b' S | "";`, true},
		{`start S; S = ~ "c";`, true},
		{`start S; S = S "a";`, false},
	} {
		p := made(t, samples.Read(c.text))
		for n := range api.MaxInput + 1 {
			for _, number := range noNumbers() {
				wantArg(t, p, number)
			}
			wantIn(t, p, c.in)
			if p.Len() != n {
				t.Fatalf("P17.1: %d bytes, not %d", p.Len(), n)
			}
			p.Feed('a' + n%2)
		}
	}
}

// TestWhatIsRefused: P17.1: Feed tells the pair's errors, not those of an engine;
// R6: what is no byte is told ahead of that there is no room.
func TestWhatIsRefused(t *testing.T) {
	p := made(t, samples.Read(`start S; S = ~ "c";`))
	for n := range api.MaxInput {
		for _, c := range []int{math.MinInt, -256, -1, 256, 1 << 32, math.MaxInt} {
			if e := p.Feed(c); e != api.ErrBothForm || p.Len() != n {
				t.Fatalf("P17.1: Feed(%d) = %d: %d bytes", c, e, p.Len())
			}
		}
		wantIn(t, p, true)
		p.Feed('d' + n)
	}
	for _, c := range []int{0, 'a', 255} {
		if e := p.Feed(c); e != api.ErrBothFull || p.Len() != api.MaxInput {
			t.Errorf("P17.1: Feed(%d) = %d: %d bytes", c, e, p.Len())
		}
	}
	for _, c := range []int{-1, 256} {
		if e := p.Feed(c); e != api.ErrBothForm || p.Len() != api.MaxInput {
			t.Errorf("R6: Feed(%d) = %d: %d bytes", c, e, p.Len())
		}
	}
	wantIn(t, p, true)
}

// TestRefusedGrammars: a grammar that has no engines has no pair.
func TestRefusedGrammars(t *testing.T) {
	all := append(samples.MayNotBe(), samples.Spoiled{What: "a cycle", Grammar: samples.Read(`start S; S = T; T = ~ S;`)})
	for _, s := range all {
		if p, e := both.New(s.Grammar); p != nil || e != api.ErrBothForm {
			t.Errorf("P17.1: %s: New(%s) = %v, %d", s.What, brief(s.Grammar), p != nil, e)
		}
	}
}

// TestNoPair: R3: whatever is asked of no pair, and (R1) of one that New did not
// make, nothing is told.
func TestNoPair(t *testing.T) {
	for _, p := range []*both.Pair{nil, {}} {
		for _, number := range append(noNumbers(), numbers()...) {
			if in, e := p.In(number); in || e != api.ErrNil {
				t.Errorf("R3: In(%d) = %v, %d", number, in, e)
			}
		}
		for _, c := range []int{math.MinInt, -1, 0, 'a', 255, 256, math.MaxInt} {
			if e := p.Feed(c); e != api.ErrNil || p.Len() != 0 {
				t.Errorf("R3: Feed(%d) = %d: %d bytes", c, e, p.Len())
			}
		}
	}
}

// TestAnyCalls: several pairs are fed and asked in any turns, well and not well;
// each says what layer 11 says of what it took.
func TestAnyCalls(t *testing.T) {
	r := samples.Numbers(171)
	in, out := 0, 0
	for range 200 {
		g := r.Leveled(6)
		all := []*walk{begin(t, &r, g), begin(t, &r, g), begin(t, &r, r.Leveled(20))}
		for range 150 {
			all[r.Next(len(all))].step(t)
			for _, w := range all {
				if w.check(t) {
					in++
				} else {
					out++
				}
			}
		}
	}
	if in < 10000 || out < 10000 {
		t.Errorf("%d in, %d not", in, out)
	}
}

// walk is a pair that is fed a text, as much of it as it took, and what layer 11
// says of that.
type walk struct {
	pair    *both.Pair
	grammar api.Grammar
	text    string
	took    int
	means   *mean.Table
	numbers *samples.Numbers
}

// begin is a walk of a grammar that has one, and of any text as long as can be.
func begin(t *testing.T, r *samples.Numbers, g api.Grammar) *walk {
	t.Helper()
	text := ""
	for len(text) < api.MaxInput {
		text += r.Text(api.MaxInput - len(text))
	}
	means, e := mean.New(g, text)
	if e != api.OK {
		t.Fatalf("New(%s): %d", brief(g), e)
	}
	return &walk{pair: made(t, g), grammar: g, text: text, means: means, numbers: r}
}

// step makes any call, as often as not one that feeds the next byte.
func (w *walk) step(t *testing.T) {
	t.Helper()
	switch w.numbers.Next(6) {
	case 0:
		w.feed(t, -1-w.numbers.Next(1000), api.ErrBothForm)
	case 1:
		w.feed(t, 256+w.numbers.Next(1000), api.ErrBothForm)
	case 2:
		wantArg(t, w.pair, noNumbers()[w.numbers.Next(len(noNumbers()))])
	default:
		if w.took == len(w.text) {
			w.feed(t, w.numbers.Next(256), api.ErrBothFull)
		} else {
			w.feed(t, int(w.text[w.took]), api.OK)
			w.took++
		}
	}
}

// feed feeds the pair what it must take or refuse so.
func (w *walk) feed(t *testing.T, c int, want api.Errno) {
	t.Helper()
	if e := w.pair.Feed(c); e != want {
		t.Fatalf("P17.1: %q: Feed(%d) = %d, not %d", w.text[:w.took], c, e, want)
	}
}

// check holds the pair against layer 11, and tells what that says.
func (w *walk) check(t *testing.T) bool {
	t.Helper()
	if w.pair.Len() != w.took {
		t.Fatalf("P17.1: %q: %d bytes", w.text[:w.took], w.pair.Len())
	}
	want := w.means.Has(w.grammar.Start, 0, w.took)
	for _, number := range numbers() {
		if in, e := w.pair.In(number); in != want || e != api.OK {
			t.Fatalf("P17.2: %s, %q: In(%d) = %v, %d", brief(w.grammar), w.text[:w.took], number, in, e)
		}
	}
	return want
}
