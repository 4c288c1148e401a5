package both

import (
	"testing"

	"temple/api"
	"temple/chart"
	"temple/samples"
	"temple/table"
)

// As engines of one grammar say the same, who is asked is seen only of pairs
// whose engines are of two grammars: from outside there are none.

// saying is an engine of each kind that says the same of whatever it is fed.
func saying(t *testing.T, in bool) (*table.Engine, *chart.Engine) {
	t.Helper()
	text := `start S; S = S;`
	if in {
		text = `start S; S = ~ S2; S2 = S2;`
	}
	g := samples.Read(text)
	columns, e := table.New(g)
	begun, f := chart.New(g)
	if e != api.OK || f != api.OK || columns.In() != in || begun.In() != in {
		t.Fatalf("%s: %d, %d", text, e, f)
	}
	return columns, begun
}

// TestWhoIsAsked: P17.1: a number is told what its engine says, and EngineBoth
// whether both say that it is in, wherever they stand in the pair.
func TestWhoIsAsked(t *testing.T) {
	for _, says := range [][2]bool{{false, false}, {false, true}, {true, false}, {true, true}} {
		columns, _ := saying(t, says[0])
		_, begun := saying(t, says[1])
		for _, p := range []*Pair{{engines: [2]engine{columns, begun}}, {engines: [2]engine{begun, columns}}} {
			for number, want := range map[int]bool{
				api.EngineTable: says[0],
				api.EngineChart: says[1],
				api.EngineBoth:  says[0] && says[1],
			} {
				if in, e := p.In(number); in != want || e != api.OK {
					t.Errorf("P17.1: %v: In(%d) = %v, %d", says, number, in, e)
				}
			}
			for _, number := range []int{-1, 3} {
				if in, e := p.In(number); in || e != api.ErrBothArg {
					t.Errorf("P17.1: %v: In(%d) = %v, %d", says, number, in, e)
				}
			}
		}
	}
}

// TestBothAreFed: what is taken is behind both engines, what is refused behind
// neither.
func TestBothAreFed(t *testing.T) {
	p, e := New(samples.Read(`start S; S = 'a'..'b' S | "a";`))
	if e != api.OK {
		t.Fatalf("P17.1: %d", e)
	}
	want := func(length int, in bool) {
		t.Helper()
		for i, x := range p.engines {
			if x.Len() != length || x.In() != in {
				t.Fatalf("P17.1: engine %d: %d bytes, %v, not %d, %v", i, x.Len(), x.In(), length, in)
			}
		}
	}
	want(0, false)
	for n := range api.MaxInput {
		c := 'b' - n%2
		p.Feed(c)
		want(n+1, c == 'a')
		for _, none := range []int{-1, 256, 256 + 'b'} {
			p.Feed(none)
			want(n+1, c == 'a')
		}
	}
	for _, c := range []int{'a', 'b', 0, -1, 256} {
		p.Feed(c)
		want(api.MaxInput, true)
	}
}
