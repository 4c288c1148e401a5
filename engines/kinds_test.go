package engines_test

import (
	"fmt"
	"math"
	"regexp"
	"strings"
	"testing"

	"temple/api"
	"temple/both"
	"temple/chart"
	"temple/mean"
	"temple/samples"
	"temple/table"
)

var (
	ref, span   = samples.Ref, samples.Span
	row, rowNot = samples.Row, samples.RowNot
	rule, named = samples.Rule, samples.Named
)

const mixed = samples.MixedText

// engine is what can be asked of each one.
type engine interface {
	Feed(c int) api.Errno
	In() bool
	Len() int
}

// kind is a layer of engines: its promise, how it makes one, a nil one, and how
// it refuses what has no form, and what there is no room for.
type kind struct {
	promise    string
	create     func(g api.Grammar) (engine, api.Errno)
	none       engine
	form, full api.Errno
}

// kinds is all of them, and pairs of them: whatever is tested here is tested of
// each one.
func kinds(t *testing.T) []kind {
	return []kind{{
		promise: "P15.1",
		create:  func(g api.Grammar) (engine, api.Errno) { return asEngine(table.New(g)) },
		none:    (*table.Engine)(nil),
		form:    api.ErrTableForm,
		full:    api.ErrTableFull,
	}, {
		promise: "P16.1",
		create:  func(g api.Grammar) (engine, api.Errno) { return asEngine(chart.New(g)) },
		none:    (*chart.Engine)(nil),
		form:    api.ErrChartForm,
		full:    api.ErrChartFull,
	}, {
		promise: "P17.1",
		create:  func(g api.Grammar) (engine, api.Errno) { return asPair(t, g) },
		none:    pair{t: t},
		form:    api.ErrBothForm,
		full:    api.ErrBothFull,
	}}
}

// asEngine is an answer of New; a pointer that is nil is no engine.
func asEngine[E interface {
	comparable
	engine
}](x E, e api.Errno) (engine, api.Errno) {
	var none E
	if x == none {
		return nil, e
	}
	return x, e
}

// pair is two engines side by side, as one that says what they all say.
type pair struct {
	*both.Pair
	t *testing.T
}

// asPair is an answer of New of layer 17; a pointer that is nil is no engine.
func asPair(t *testing.T, g api.Grammar) (engine, api.Errno) {
	p, e := both.New(g)
	if p == nil {
		return nil, e
	}
	return pair{p, t}, e
}

// In: P17.2: each of the numbers is told the same.
func (p pair) In() bool {
	p.t.Helper()
	want := api.OK
	if p.Pair == nil {
		want = api.ErrNil
	}
	first, _ := p.Pair.In(api.EngineTable)
	for _, number := range []int{api.EngineTable, api.EngineChart, api.EngineBoth} {
		if in, e := p.Pair.In(number); in != first || e != want {
			p.t.Errorf("P17.2: %d bytes, In(%d) = %v, %d, not %v, %d", p.Len(), number, in, e, first, want)
		}
	}
	return first
}

// brief tells the beginning of something that may be long.
func brief(x any) string {
	return fmt.Sprintf("%.300s", fmt.Sprint(x))
}

// made is the engine of a grammar that has one.
func (k kind) made(t *testing.T, g api.Grammar) engine {
	t.Helper()
	x, e := k.create(g)
	if x == nil || e != api.OK {
		t.Fatalf("%s: New(%s) = %v, %d", k.promise, brief(g), x != nil, e)
	}
	return x
}

// feed feeds an engine a text, each byte of which it must take.
func (k kind) feed(t *testing.T, x engine, w string) {
	t.Helper()
	for i, c := range []byte(w) {
		if e := x.Feed(int(c)); e != api.OK {
			t.Fatalf("%s: %q, byte %d: %d", k.promise, w, i, e)
		}
	}
}

// fed is the engine of a grammar, fed a text.
func (k kind) fed(t *testing.T, g api.Grammar, w string) engine {
	t.Helper()
	x := k.made(t, g)
	k.feed(t, x, w)
	return x
}

// noBytes is numbers that are no bytes.
func noBytes() []int {
	out := []int{math.MinInt, math.MinInt32, -1 << 32, -65536, -257, -256, -255, 512, 65536, 1<<32 - 1, 1 << 32, 1<<32 + 'a', 1 << 40, math.MaxInt}
	for i := range 200 {
		out = append(out, -1-i, 256+i)
	}
	return out
}

// wantRefused: what is fed is refused, and (R5) the engine stays as it was.
func (k kind) wantRefused(t *testing.T, x engine, c int, want api.Errno) {
	t.Helper()
	in, length := x.In(), x.Len()
	if e := x.Feed(c); e != want {
		t.Errorf("%s: %d bytes, Feed(%d) = %d, not %d", k.promise, length, c, e, want)
	}
	if x.In() != in || x.Len() != length {
		t.Errorf("R5: %s: %d bytes, Feed(%d): %v, %d, not %v", k.promise, length, c, x.In(), x.Len(), in)
	}
}

// wantNone: there is no engine, and none beside the error.
func wantNone(t *testing.T, what string, g api.Grammar) {
	t.Helper()
	for _, k := range kinds(t) {
		if x, e := k.create(g); x != nil || e != k.form {
			t.Errorf("%s: %s: New(%s) = %v, %d", k.promise, what, brief(g), x != nil, e)
		}
	}
}

// wantEach: behind each byte of a text each engine says of all that was fed what
// is wanted, asked once and twice.
func wantEach(t *testing.T, g api.Grammar, w string, wanted func(s string) bool) {
	t.Helper()
	for _, k := range kinds(t) {
		x := k.made(t, g)
		for n := range len(w) + 1 {
			if n > 0 {
				k.feed(t, x, w[n-1:n])
			}
			want := wanted(w[:n])
			if x.In() != want || x.In() != want {
				t.Fatalf("%s: %s, %q: %v", k.promise, brief(g), w[:n], !want)
			}
			if x.Len() != n {
				t.Fatalf("%s: %s, %q: Len %d", k.promise, brief(g), w[:n], x.Len())
			}
		}
	}
}

// wantMean: whichever name is the start, engines say what layer 11 says.
func wantMean(t *testing.T, g api.Grammar, w string) {
	t.Helper()
	means, e := mean.New(g, w)
	if e != api.OK {
		t.Fatalf("New(%s, %q): %d", brief(g), w, e)
	}
	for g.Start = range g.Names {
		wantEach(t, g, w, func(s string) bool { return means.Has(g.Start, 0, len(s)) })
	}
}

// wantTexts: the grammar of a text has what is wanted: of all texts of up to five
// of three bytes, of each piece of a mixed one up to its end, of others.
func wantTexts(t *testing.T, text string, wanted func(s string) bool) {
	t.Helper()
	g := samples.Read(text)
	samples.EachChoice(5, 3, func(chosen []int) {
		w := make([]byte, len(chosen))
		for i, c := range chosen {
			w[i] = byte('a' + c)
		}
		wantEach(t, g, string(w), wanted)
	})
	for i := range mixed {
		wantEach(t, g, mixed[i:], wanted)
	}
	for _, w := range []string{strings.Repeat("a", api.MaxInput), strings.Repeat("b", api.MaxInput), "x", "\x00\xff"} {
		wantEach(t, g, w, wanted)
	}
}

// like is the texts that are, from their beginning to their end, like a pattern.
func like(pattern string) func(s string) bool {
	return regexp.MustCompile(`^(?s:` + pattern + `)$`).MatchString
}

// unlike is all other ones.
func unlike(pattern string) func(s string) bool {
	is := like(pattern)
	return func(s string) bool { return !is(s) }
}

func never(string) bool  { return false }
func always(string) bool { return true }
