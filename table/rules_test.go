package table_test

import (
	"fmt"
	"sync"
	"testing"

	"temple/api"
	"temple/samples"
	"temple/strata"
	"temple/table"
)

// told is all that an engine answers.
func told(x *table.Engine) string {
	return fmt.Sprint(x.In(), x.Len(), x.Steps())
}

// toldOf is all that a new engine answers behind each byte of a text.
func toldOf(t *testing.T, g api.Grammar, w string) []string {
	t.Helper()
	x := made(t, g)
	out := []string{told(x)}
	for i := range w {
		feed(t, x, w[i:i+1])
		out = append(out, told(x))
	}
	return out
}

// TestNoEngine: R3: no engine takes a byte, and nothing is told of it, nor of
// one that New did not make.
func TestNoEngine(t *testing.T) {
	for _, x := range []*table.Engine{nil, {}} {
		for _, c := range append(noBytes(), 0, 'a', 255) {
			if e := x.Feed(c); e != api.ErrNil {
				t.Errorf("R3: Feed(%d) = %d", c, e)
			}
			if x.In() || x.Len() != 0 || x.Steps() != 0 {
				t.Errorf("R3: %s", told(x))
			}
		}
	}
}

// TestGrammarStaysAsItWas: R4: what is handed in is not changed, its spare room
// neither, not by feeding either, and an engine does not hang on it any more.
func TestGrammarStaysAsItWas(t *testing.T) {
	cyclic, spoiled := samples.Plain(), samples.Plain()
	cyclic.Rules[2].Conj[0].Seq[0] = ref(0)
	spoiled.Start = 2
	r := samples.Numbers(154)
	all := []api.Grammar{samples.Plain(), cyclic, spoiled, samples.Greatest()}
	for range 50 {
		all = append(all, r.Leveled(5))
	}
	for _, g := range all {
		for _, w := range []string{"", "axabc", "abcab"} {
			given := samples.Roomy(g)
			x, e := table.New(given)
			if e == api.OK {
				feed(t, x, w)
				x.In()
			}
			if !samples.Same(given, samples.Roomy(g)) {
				t.Fatalf("R4: %s became %s", brief(g), brief(given))
			}
			if e == api.OK {
				wantHeld(t, x, given, g, w)
			}
		}
	}
}

// wantHeld: R4: an engine that was fed a text goes on as one of its grammar, though
// what was handed in for that is overwritten.
func wantHeld(t *testing.T, x *table.Engine, given, g api.Grammar, w string) {
	t.Helper()
	samples.Overwrite(given)
	const more = "bxaac"
	want := toldOf(t, g, w+more)[len(w):]
	for i := range len(more) + 1 {
		if i > 0 {
			feed(t, x, more[i-1:i])
		}
		if got := told(x); got != want[i] {
			t.Fatalf("R4: %s, %q: %s, not %s", brief(g), w+more[:i], got, want[i])
		}
	}
}

// TestInTurns: R5: engines of one grammar, fed in turns, know nothing of each
// other, nor of engines of other grammars.
func TestInTurns(t *testing.T) {
	r := samples.Numbers(155)
	for range 200 {
		g, h := r.Leveled(5), r.Leveled(5)
		grammars := []api.Grammar{g, g, h, g}
		var engines []*table.Engine
		var texts []string
		for _, of := range grammars {
			engines = append(engines, made(t, of))
			texts = append(texts, r.Text(8))
		}
		var want [][]string
		for i, of := range grammars {
			want = append(want, toldOf(t, of, texts[i]))
		}
		for left := 40; left > 0; left-- {
			i := r.Next(len(engines))
			if n := engines[i].Len(); n < len(texts[i]) {
				feed(t, engines[i], texts[i][n:n+1])
			}
			for k, x := range engines {
				if got := told(x); got != want[k][x.Len()] {
					t.Fatalf("R5: %s, %q: %s, not %s", brief(grammars[k]), texts[k], got, want[k][x.Len()])
				}
			}
		}
	}
}

// TestSameCalls: R5: the same calls answer the same and take the same turns,
// whatever was asked or refused between them.
func TestSameCalls(t *testing.T) {
	r := samples.Numbers(156)
	for range 100 {
		g, w := r.Leveled(6), r.Text(10)
		want := toldOf(t, g, w)
		x := made(t, g)
		for i := range len(w) + 1 {
			if i > 0 {
				feed(t, x, w[i-1:i])
			}
			for range 3 {
				x.Feed(-1)
				x.Feed(256)
				table.New(api.Grammar{})
				if got := told(x); got != want[i] {
					t.Fatalf("R5: %s, %q: %s, not %s", brief(g), w[:i], got, want[i])
				}
			}
		}
	}
}

func TestSeveralGoroutines(t *testing.T) {
	g := samples.Read(`start S; S = A & ~ B; A = "a" A | "b" | ""; B = A "b" & ~ "b";`)
	want := fmt.Sprint(toldOf(t, g, "aab"))
	var group sync.WaitGroup
	for range 8 {
		group.Go(func() {
			for range 30 {
				x, e := table.New(g)
				got := []string{told(x)}
				for _, c := range []byte("aab") {
					x.Feed(int(c))
					got = append(got, told(x))
				}
				if e != api.OK || fmt.Sprint(got) != want {
					t.Errorf("R5: %v, %d", got, e)
				}
				wantNone(t, "not itself", named(1, rule(0, rowNot(ref(0)))))
			}
		})
	}
	group.Wait()
}

// TestGreatGrammars: R1: what is far too much is refused in a time that its
// size explains.
func TestGreatGrammars(t *testing.T) {
	for _, s := range samples.Great() {
		wantNone(t, s.What, s.Grammar)
	}
}

// TestAnyNumbers: R1: no numbers make a panic; what may be and has no cycle has
// an engine, all else has none.
func TestAnyNumbers(t *testing.T) {
	const w = "ax\x00\x01\x02\xff"
	for _, g := range samples.AnyNumbers() {
		if _, _, e := strata.Strata(g); e == api.OK {
			wantMean(t, g, w)
		} else {
			wantNone(t, "may not be, or a cycle", g)
		}
	}
}
