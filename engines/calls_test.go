package engines_test

import (
	"strings"
	"testing"

	"temple/api"
	"temple/nulls"
	"temple/samples"
	"temple/strata"
)

func TestWhatMayNotBe(t *testing.T) {
	for _, s := range samples.MayNotBe() {
		wantNone(t, s.What, s.Grammar)
	}
	wantMean(t, samples.Plain(), "axxabx")
}

func TestCycles(t *testing.T) {
	wantNone(t, "not itself", named(1, rule(0, rowNot(ref(0)))))
	wantNone(t, "not itself, beside a rule that holds", named(1, rule(0, row()), rule(0, rowNot(ref(0)))))
	wantNone(t, "over another name", named(2, rule(0, row(ref(1))), rule(1, rowNot(ref(0)))))
	wantNone(t, "of names that nobody needs", named(3, rule(0, row()), rule(1, row(ref(2))), rule(2, rowNot(ref(1)))))
	wantNone(t, "a text", samples.Read(`start S; S = "" | T & ~ "b"; T = "c" & ~ "d" S "e";`))
	// A cycle without a negation, and a negation without a cycle, are none.
	wantMean(t, named(2, rule(0, row(ref(1))), rule(1, row(ref(0)))), "a")
	wantMean(t, named(2, rule(0, rowNot(ref(1))), rule(1, row())), "a")
}

// TestMixedCycles: of grammars with many negations those are refused in which
// layer 8 finds a cycle, and no others.
func TestMixedCycles(t *testing.T) {
	r := samples.Numbers(15)
	told, cycles := 0, 0
	for range 2000 {
		g := r.Grammar(4)
		if _, _, e := strata.Strata(g); e != api.OK {
			wantNone(t, "a cycle", g)
			cycles++
		} else {
			wantMean(t, g, "a\x80\xff")
			told++
		}
	}
	if told < 200 || cycles < 200 {
		t.Errorf("%d told, %d cycles", told, cycles)
	}
}

// TestFedNothing: a new engine has no bytes, and says whether the start has the
// empty text.
func TestFedNothing(t *testing.T) {
	for _, c := range []struct {
		text string
		in   bool
	}{
		{`start S; S = "";`, true},
		{`start S; S = "a";`, false},
		{`start S; S = "a" | T T; T = "b" T | "";`, true},
		{`start T; S = ""; T = S "b";`, false},
		{`start S; S = ~ "a";`, true},
		{`start S; S = ~ T; T = "";`, false},
		{`start S; S = ~ T; T = ~ U; U = U U | "";`, true},
		{`start S; S = S;`, false},
		{`start S; S = "" & ~ T; T = T "a" T | "b";`, true},
	} {
		wantEach(t, samples.Read(c.text), "", func(string) bool { return c.in })
	}
	r, in := samples.Numbers(16), 0
	for range 2000 {
		g := r.Leveled(10)
		has, _ := nulls.Nulls(g)
		wantEach(t, g, "", func(string) bool { return has[g.Start] })
		if has[g.Start] {
			in++
		}
	}
	if in < 300 || in > 1700 {
		t.Errorf("%d of 2000", in)
	}
}

func TestNoBytes(t *testing.T) {
	g := samples.Read(`start S; S = A & ~ "aab"; A = 'a'..'b' A | B; B = "b" B | "";`)
	const w = "aabbabba"
	for _, k := range kinds(t) {
		x, other := k.made(t, g), k.made(t, g)
		for n := range len(w) + 1 {
			for _, c := range noBytes() {
				k.wantRefused(t, x, c, k.form)
			}
			if x.In() != other.In() || x.Len() != other.Len() {
				t.Fatalf("R5: %s: %q: %v, %d", k.promise, w[:n], x.In(), x.Len())
			}
			if n < len(w) {
				k.feed(t, x, w[n:n+1])
				k.feed(t, other, w[n:n+1])
			}
		}
	}
}

func TestFull(t *testing.T) {
	for _, text := range []string{
		`start S; S = 'a'..'b' S | "";`,
		`start S; S = "a" S "a" | "a" S "b" | "b" S "a" | "b" S "b" | "a" | "b";`,
		`start S; S = ~ "a";`,
	} {
		for _, k := range kinds(t) {
			x := k.made(t, samples.Read(text))
			for n := range api.MaxInput {
				if x.Len() != n {
					t.Fatalf("%s: %d bytes: %d", k.promise, n, x.Len())
				}
				k.feed(t, x, "a")
			}
			for range 3 {
				for c := range 256 {
					k.wantRefused(t, x, c, k.full)
				}
			}
			if x.Len() != api.MaxInput {
				t.Errorf("%s: %d bytes", k.promise, x.Len())
			}
		}
	}
}

// TestFullAndNoByte: R6: that it is no byte is said ahead of that there is no
// room.
func TestFullAndNoByte(t *testing.T) {
	for _, k := range kinds(t) {
		x := k.fed(t, samples.Read(`start S; S = "a" S | "";`), strings.Repeat("a", api.MaxInput))
		for _, c := range noBytes() {
			k.wantRefused(t, x, c, k.form)
			k.wantRefused(t, x, 'a', k.full)
		}
	}
}

// TestEachByte: each byte is taken, as what it is.
func TestEachByte(t *testing.T) {
	for _, ends := range [][2]int{{0, 0}, {0, 255}, {255, 255}, {'a', 'a'}, {'a', 'z'}, {127, 128}, {1, 254}} {
		g := named(1, rule(0, row(span(ends[0], ends[1]))))
		for c := range 256 {
			w := string([]byte{byte(c), byte(255 - c)})
			wantEach(t, g, w, func(s string) bool { return len(s) == 1 && ends[0] <= c && c <= ends[1] })
			wantMean(t, g, w)
		}
	}
	// Bytes are not mistaken for their neighbours where many stand in a row.
	g := named(1)
	all, w := row(), make([]byte, api.MaxInput)
	for i := range w {
		w[i] = byte(i * 8)
		all.Seq = append(all.Seq, span(i*8, i*8))
	}
	g.Rules = append(g.Rules, rule(0, all))
	for i := range w {
		for _, by := range []byte{0, 1, 7} {
			w[i] += by
			wantEach(t, g, string(w), func(s string) bool { return len(s) == api.MaxInput && by == 0 })
			w[i] -= by
		}
	}
}
