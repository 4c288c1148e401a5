package engines_test

import (
	"fmt"
	"sync"
	"testing"

	"temple/api"
	"temple/chart"
	"temple/samples"
	"temple/strata"
	"temple/table"
)

// told is all that an engine answers.
func told(x engine) string {
	return fmt.Sprint(x.In(), x.Len())
}

// toldOf is all that a new engine answers behind each byte of a text.
func (k kind) toldOf(t *testing.T, g api.Grammar, w string) []string {
	t.Helper()
	x := k.made(t, g)
	out := []string{told(x)}
	for i := range w {
		k.feed(t, x, w[i:i+1])
		out = append(out, told(x))
	}
	return out
}

// TestNoEngine: R3: no engine takes a byte, and nothing is told of it.
func TestNoEngine(t *testing.T) {
	for _, k := range kinds(t) {
		for _, c := range append(noBytes(), 0, 'a', 255) {
			k.wantRefused(t, k.none, c, api.ErrNil)
		}
		if k.none.In() || k.none.Len() != 0 {
			t.Errorf("R3: %s: %s", k.promise, told(k.none))
		}
	}
}

// TestNotMade: R1: an engine that New did not make makes no panic.
func TestNotMade(t *testing.T) {
	for _, x := range []engine{new(table.Engine), new(chart.Engine)} {
		for _, c := range append(noBytes(), 0, 'a', 255) {
			x.Feed(c)
			told(x)
		}
	}
}

// TestGrammarStaysAsItWas: R4: what is handed in is not changed, its spare room
// neither, not by feeding either, and an engine does not hang on it any more.
func TestGrammarStaysAsItWas(t *testing.T) {
	cyclic, spoiled := samples.Plain(), samples.Plain()
	cyclic.Rules[2].Conj[0].Seq[0] = ref(0)
	spoiled.Start = 2
	r := samples.Numbers(154)
	all := []api.Grammar{samples.Plain(), cyclic, spoiled, samples.Greatest()}
	for range 50 {
		all = append(all, r.Leveled(5))
	}
	for _, g := range all {
		for _, w := range []string{"", "axabc", "abcab"} {
			for _, k := range kinds(t) {
				k.wantUntouched(t, g, w)
			}
		}
	}
}

// wantUntouched: R4: a grammar stays as it was, and an engine that was fed a text
// goes on as one of it, though what was handed in for that is overwritten.
func (k kind) wantUntouched(t *testing.T, g api.Grammar, w string) {
	t.Helper()
	given := samples.Roomy(g)
	x, e := k.create(given)
	if e == api.OK {
		k.feed(t, x, w)
		x.In()
	}
	if !samples.Same(given, samples.Roomy(g)) {
		t.Fatalf("R4: %s: %s became %s", k.promise, brief(g), brief(given))
	}
	if e != api.OK {
		return
	}
	samples.Overwrite(given)
	const more = "bxaac"
	want := k.toldOf(t, g, w+more)[len(w):]
	for i := range len(more) + 1 {
		if i > 0 {
			k.feed(t, x, more[i-1:i])
		}
		if got := told(x); got != want[i] {
			t.Fatalf("R4: %s: %s, %q: %s, not %s", k.promise, brief(g), w+more[:i], got, want[i])
		}
	}
}

// TestInTurns: R5: engines of one grammar, fed in turns, know nothing of each
// other, nor of engines of other grammars.
func TestInTurns(t *testing.T) {
	r := samples.Numbers(155)
	for range 200 {
		g, h := r.Leveled(5), r.Leveled(5)
		grammars := []api.Grammar{g, g, h, g}
		var texts []string
		for range grammars {
			texts = append(texts, r.Text(8))
		}
		for _, k := range kinds(t) {
			k.wantInTurns(t, &r, grammars, texts)
		}
	}
}

// wantInTurns: R5: engines of some grammars, fed some texts in turns, say what
// others say that are fed one by one.
func (k kind) wantInTurns(t *testing.T, r *samples.Numbers, grammars []api.Grammar, texts []string) {
	t.Helper()
	var all []engine
	var want [][]string
	for i, g := range grammars {
		all = append(all, k.made(t, g))
		want = append(want, k.toldOf(t, g, texts[i]))
	}
	for range 40 {
		i := r.Next(len(all))
		if n := all[i].Len(); n < len(texts[i]) {
			k.feed(t, all[i], texts[i][n:n+1])
		}
		for i, x := range all {
			if got := told(x); got != want[i][x.Len()] {
				t.Fatalf("R5: %s: %s, %q: %s, not %s", k.promise, brief(grammars[i]), texts[i], got, want[i][x.Len()])
			}
		}
	}
}

// TestSameCalls: R5: the same calls answer the same, whatever was asked or refused
// between them.
func TestSameCalls(t *testing.T) {
	r := samples.Numbers(156)
	for range 100 {
		g, w := r.Leveled(6), r.Text(10)
		for _, k := range kinds(t) {
			want := k.toldOf(t, g, w)
			x := k.made(t, g)
			for i := range len(w) + 1 {
				if i > 0 {
					k.feed(t, x, w[i-1:i])
				}
				for range 3 {
					x.Feed(-1)
					x.Feed(256)
					k.create(api.Grammar{})
					if got := told(x); got != want[i] {
						t.Fatalf("R5: %s: %s, %q: %s, not %s", k.promise, brief(g), w[:i], got, want[i])
					}
				}
			}
		}
	}
}

func TestSeveralGoroutines(t *testing.T) {
	g := samples.Read(`start S; S = A & ~ B; A = "a" A | "b" | ""; B = A "b" & ~ "b";`)
	var group sync.WaitGroup
	for _, k := range kinds(t) {
		want := fmt.Sprint(k.toldOf(t, g, "aab"))
		for range 8 {
			group.Go(func() {
				for range 30 {
					x, e := k.create(g)
					got := []string{told(x)}
					for _, c := range []byte("aab") {
						x.Feed(int(c))
						got = append(got, told(x))
					}
					if e != api.OK || fmt.Sprint(got) != want {
						t.Errorf("R5: %s: %v, %d", k.promise, got, e)
					}
					wantNone(t, "not itself", named(1, rule(0, rowNot(ref(0)))))
				}
			})
		}
	}
	group.Wait()
}

// TestGreatGrammars: R1: what is far too much is refused in a time that its
// size explains.
func TestGreatGrammars(t *testing.T) {
	for _, s := range samples.Great() {
		wantNone(t, s.What, s.Grammar)
	}
}

// TestAnyNumbers: R1: no numbers make a panic; what may be and has no cycle has
// an engine, all else has none.
func TestAnyNumbers(t *testing.T) {
	const w = "ax\x00\x01\x02\xff"
	for _, g := range samples.AnyNumbers() {
		if _, _, e := strata.Strata(g); e == api.OK {
			wantMean(t, g, w)
		} else {
			wantNone(t, "may not be, or a cycle", g)
		}
	}
}
