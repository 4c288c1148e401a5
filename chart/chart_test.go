package chart_test

import (
	"fmt"
	"slices"
	"strings"
	"testing"

	"temple/api"
	"temple/chart"
	"temple/mean"
	"temple/samples"
	"temple/table"
)

// What all engines must do is tested in package engines; here stands what this
// one, that begins only what the start may come to, might get wrong.

// brief tells the beginning of something that may be long.
func brief(x any) string {
	return fmt.Sprintf("%.300s", fmt.Sprint(x))
}

// told is what a new engine says with nothing fed and behind each byte of a text.
func told(t *testing.T, g api.Grammar, w string) []bool {
	t.Helper()
	x, e := chart.New(g)
	if x == nil || e != api.OK {
		t.Fatalf("P16.1: New(%s) = %v, %d", brief(g), x != nil, e)
	}
	out := []bool{x.In()}
	for n, c := range []byte(w) {
		if e := x.Feed(int(c)); e != api.OK || x.Len() != n+1 {
			t.Fatalf("P16.1: %q, byte %d: %d, %d", w, n, e, x.Len())
		}
		out = append(out, x.In())
	}
	return out
}

// wantMean: P16.1: whichever name is the start, the engine says what layer 11
// says.
func wantMean(t *testing.T, g api.Grammar, w string) {
	t.Helper()
	means, e := mean.New(g, w)
	if e != api.OK {
		t.Fatalf("New(%s): %d", brief(g), e)
	}
	for g.Start = range g.Names {
		for n, got := range told(t, g, w) {
			if got != means.Has(g.Start, 0, n) {
				t.Fatalf("P16.1: %s, %q: %v", brief(g), w[:n], got)
			}
		}
	}
}

// wantMeans holds all texts of six bytes, of a, b and c, and what they begin with.
func wantMeans(t *testing.T, text string) {
	t.Helper()
	g := samples.Read(text)
	samples.EachChoice(6, 3, func(chosen []int) {
		w := make([]byte, len(chosen))
		for i, c := range chosen {
			w[i] = byte('a' + c)
		}
		wantMean(t, g, string(w))
	})
}

// TestBegunLate: names that are begun only when others end, ahead of them by
// level or behind, and have the empty text there, or what is not it.
func TestBegunLate(t *testing.T) {
	for _, text := range []string{
		// What is negated is begun at a point only by what ends there.
		`start S; S = A B; A = "a" A | "a"; B = 'a'..'c' B & ~ C | ""; C = "b" D; D = "" | "c" D;`,
		`start S; S = N L N; N = ~ L & ~ ""; L = "b" L | "";`,
		`start S; S = N N; N = 'a'..'b' & ~ M | ""; M = L L; L = "a" | "" & ~ O; O = "c";`,
		// A name that is begun where it ends, over one that ends there too.
		`start S; S = A E E "b" | A E E; A = E "a" E; E = F F; F = "" | "c" & ~ "b";`,
		// Both what has a span, and what negates it, are waited for at one point.
		`start S; S = A T | A N; A = 'a'..'c' A | ""; T = "bc"; N = ~ T & P; P = 'b'..'c' P | "b";`,
		// Rings, in which each end makes the next one.
		`start S; S = T & U | S S; T = U & 'a'..'b' | "ab"; U = V; V = W | "a"; W = "b" E | "ab"; E = S & ~ S2 | ""; S2 = "c";`,
		`start S; S = E S E | E; E = "a" | "b" E | ""; T = S "c" T;`,
	} {
		wantMeans(t, text)
	}
}

// TestNeverBegun: what the start never comes to counts for nothing.
func TestNeverBegun(t *testing.T) {
	r := samples.Numbers(161)
	for range 1000 {
		g, w := r.Leveled(5), r.Text(8)
		more := samples.Named(len(g.Names)+2, g.Rules...)
		more.Start = g.Start
		first, last := len(g.Names), len(g.Names)+1
		more.Rules = append(more.Rules,
			samples.Rule(first, samples.RowNot(samples.Ref(g.Start))),
			samples.Rule(last, samples.Row(samples.Ref(first), samples.Ref(last))),
			samples.Rule(last, samples.RowNot(samples.Span('a', 'c'))))
		if got, want := told(t, more, w), told(t, g, w); !slices.Equal(got, want) {
			t.Fatalf("P16.1: %v, %q: %v, not %v", more, w, got, want)
		}
	}
}

// TestSaysWhatTableSays: of grammars of many names and long texts.
func TestSaysWhatTableSays(t *testing.T) {
	r := samples.Numbers(162)
	either := 0
	for range 60 {
		g, w := r.Leveled(api.MaxNames), samples.MixedText
		if r.Next(2) == 0 {
			w = r.Text(api.MaxInput)
		}
		for g.Start = range g.Names {
			got := told(t, g, w)
			x, _ := table.New(g)
			for n := range got {
				if n > 0 {
					x.Feed(int(w[n-1]))
				}
				if got[n] != x.In() {
					t.Fatalf("P16.1: %s, %q: %v", brief(g), w[:n], got[n])
				}
			}
			if slices.Contains(got, true) && slices.Contains(got, false) {
				either++
			}
		}
	}
	if either < 200 {
		t.Errorf("%d with either", either)
	}
}

// TestLongRowsOfEmptyTexts: names are begun within one another, in rows of others
// that have the empty text, as far as there can be.
func TestLongRowsOfEmptyTexts(t *testing.T) {
	const wide = api.MaxSymbols/api.MaxNames - 1
	g := samples.Named(api.MaxNames)
	for i := range api.MaxNames {
		next := samples.Ref((i + 1) % api.MaxNames)
		g.Rules = append(g.Rules, samples.Rule(i, samples.Row(slices.Repeat([]api.Symbol{next}, wide)...)))
		g.Rules = append(g.Rules, samples.Rule(i, samples.Row()))
		if i == api.MaxNames-1 {
			g.Rules = append(g.Rules, samples.Rule(i, samples.Row(samples.Span('a', 'b'))))
		}
	}
	for n, got := range told(t, g, strings.Repeat("ab", api.MaxInput/2)) {
		if !got {
			t.Errorf("P16.1: %d bytes: %v", n, got)
		}
	}
	if got := told(t, g, "abcab"); !slices.Equal(got, []bool{true, true, true, false, false, false}) {
		t.Errorf("P16.1: %v", got)
	}
}
