package table_test

import (
	"fmt"
	"math"
	"testing"

	"temple/api"
	"temple/samples"
	"temple/seqs"
	"temple/table"
)

// What all engines must do is tested in package engines; here stands what this
// one does besides.

// brief tells the beginning of something that may be long.
func brief(x any) string {
	return fmt.Sprintf("%.300s", fmt.Sprint(x))
}

// made is the engine of a grammar that has one.
func made(t *testing.T, g api.Grammar) *table.Engine {
	t.Helper()
	x, e := table.New(g)
	if x == nil || e != api.OK {
		t.Fatalf("P15.1: New(%s) = %v, %d", brief(g), x != nil, e)
	}
	return x
}

// wantSteps: P15.2: an engine took no more turns than it may.
func wantSteps(t *testing.T, x *table.Engine, g api.Grammar) {
	t.Helper()
	n := x.Len() + 1
	if s := x.Steps(); s <= 0 || s > api.StepFactor*(seqs.Count(g)+1)*n*n*n {
		t.Fatalf("P15.2: %s, %d bytes: %d", brief(g), x.Len(), s)
	}
}

// stepsOf is the turns that a new engine took, with nothing fed and behind each
// byte of a text: always some more, but not too many, and asked twice the same.
func stepsOf(t *testing.T, g api.Grammar, w string) []int {
	t.Helper()
	x := made(t, g)
	wantSteps(t, x, g)
	out := []int{x.Steps()}
	for n, c := range []byte(w) {
		if e := x.Feed(int(c)); e != api.OK {
			t.Fatalf("P15.1: %q, byte %d: %d", w, n, e)
		}
		wantSteps(t, x, g)
		if s := x.Steps(); s <= out[n] || s != x.Steps() {
			t.Fatalf("P15.2: %s, %q: %d steps behind %d", brief(g), w[:n+1], s, out[n])
		}
		out = append(out, x.Steps())
	}
	return out
}

// TestStepsOfGreatGrammars: P15.2: the bound, with nothing fed and behind each
// byte, where much is to be passed on.
func TestStepsOfGreatGrammars(t *testing.T) {
	for _, g := range samples.Heavy() {
		for _, c := range "abc" {
			w := make([]byte, api.MaxInput)
			for i := range w {
				w[i] = byte(c)
			}
			stepsOf(t, g, string(w))
		}
		stepsOf(t, g, samples.MixedText)
	}
}

func TestStepsOfSmallGrammars(t *testing.T) {
	for _, text := range []string{
		`start S; S = "";`,
		`start S; S = S;`,
		`start S; S = ~ "";`,
		`start S; S = S S | "a" | "";`,
		`start S; S = S S S | "a" | "b";`,
		`start S; S = ~ T; T = ~ U; U = "a" U | "";`,
		`start A; A = A C & B B | "a"; B = A A & B F | "aa"; C = A B & F F | "aaa"; F = A B & C C;`,
	} {
		for i := range samples.MixedText {
			stepsOf(t, samples.Read(text), samples.MixedText[i:])
		}
	}
}

func TestStepsOfMixedGrammars(t *testing.T) {
	r := samples.Numbers(152)
	for range 3000 {
		stepsOf(t, r.Leveled(8), r.Text(8))
	}
	for range 20 {
		stepsOf(t, r.Leveled(api.MaxNames), r.Text(api.MaxInput))
	}
}

// TestRefusedTakesNoSteps: R5: what is refused takes no turns, and none later on;
// the same calls take the same turns.
func TestRefusedTakesNoSteps(t *testing.T) {
	r := samples.Numbers(153)
	for range 100 {
		g := r.Leveled(6)
		w := r.Text(api.MaxInput)
		want := stepsOf(t, g, w)
		x := made(t, g)
		for n := range len(w) + 1 {
			if n > 0 {
				x.Feed(int(w[n-1]))
			}
			for _, c := range []int{-1, 256, math.MinInt, math.MaxInt} {
				x.Feed(c)
				made(t, samples.Plain())
				if s := x.Steps(); s != want[n] {
					t.Fatalf("R5: %v, %q: %d, not %d", g, w[:n], s, want[n])
				}
			}
		}
	}
	full := made(t, samples.Plain())
	for range api.MaxInput {
		full.Feed('a')
	}
	before := full.Steps()
	for c := range 256 {
		if e := full.Feed(c); e != api.ErrTableFull || full.Steps() != before {
			t.Fatalf("R5: Feed(%d) = %d: %d steps, not %d", c, e, full.Steps(), before)
		}
	}
}

// TestNoEngineTakesNoSteps: R3, and of an engine that New did not make.
func TestNoEngineTakesNoSteps(t *testing.T) {
	for _, x := range []*table.Engine{nil, {}} {
		x.Feed('a')
		if x.Steps() != 0 {
			t.Errorf("R3: %d", x.Steps())
		}
	}
}
