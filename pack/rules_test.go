package pack_test

import (
	"math"
	"slices"
	"strings"
	"sync"
	"testing"

	"temple/api"
	"temple/pack"
	"temple/samples"
)

// TestProofStaysAsItWas: R4: what is handed in is not changed, its spare room
// neither, whether it has bytes or not.
func TestProofStaysAsItWas(t *testing.T) {
	wrong := some()
	wrong.Nodes[2].Picks[0].Kids[0] = -1
	for _, c := range append(proofs(), wrong, longest()[2], longer(longest()[0])[0]) {
		given := samples.RoomyCert(c)
		s, e := pack.Put(given)
		if !samples.SameCert(given, samples.RoomyCert(c)) {
			t.Fatalf("R4: %s became %s", brief(c), brief(given))
		}
		samples.OverwriteCert(given)
		if again, f := pack.Put(c); again != s || f != e {
			t.Fatalf("R4: %s: %.300q, then %.300q", brief(c), s, again)
		}
	}
}

// TestAnswersAreApart: R4: what is done to an answer is seen in no other one.
func TestAnswersAreApart(t *testing.T) {
	for _, c := range proofs() {
		s := written(c)
		first, second := got(t, s), got(t, s)
		samples.OverwriteCert(first)
		if !alike(second, c) {
			t.Fatalf("R4: %s became %s", brief(c), brief(second))
		}
		wantProof(t, s, c)
	}
}

// TestListsAreApart: R4: two lists of one answer share nothing, no spare room
// either.
func TestListsAreApart(t *testing.T) {
	for _, c := range append(proofs(), picked(40, 3), picked(3, 40)) {
		s := written(c)
		for i := range c.Nodes {
			d := got(t, s)
			kids := allKids(d)
			spoil(d.Nodes[i].Picks, api.Pick{At: -1})
			d.Nodes[i].Picks = slices.Clone(c.Nodes[i].Picks)
			if !alike(d, c) || !slices.EqualFunc(kids, allKids(c), slices.Equal[[]int]) {
				t.Fatalf("R4: %s: picks of node %d: %s", brief(c), i, brief(d))
			}
		}
		for i := range allKids(c) {
			d := got(t, s)
			kids := allKids(d)[i]
			spoil(kids, -1)
			copy(kids, allKids(c)[i])
			if !alike(d, c) {
				t.Fatalf("R4: %s: kids %d: %s", brief(c), i, brief(d))
			}
		}
	}
}

// allKids is the kids of all picks, a list each.
func allKids(c api.Cert) [][]int {
	var out [][]int
	for _, n := range c.Nodes {
		for _, p := range n.Picks {
			out = append(out, p.Kids)
		}
	}
	return out
}

// spoil fills a list and its spare room.
func spoil[T any](list []T, with T) {
	for i := range list[:cap(list)] {
		list[:cap(list)][i] = with
	}
}

// TestSameCalls: R5: the same calls answer the same, whatever was asked between
// them.
func TestSameCalls(t *testing.T) {
	wrong := some()
	wrong.Nodes[3].Rank = -1
	for range 300 {
		wantBack(t, some())
		wantNoBytes(t, "Rank", wrong, api.ErrPackForm)
		wantNoProof(t, "cut", written(some())[:30], api.ErrPackForm)
		wantBack(t, api.Cert{})
		wantNoProof(t, "nothing", "", api.ErrPackForm)
	}
	wantNoBytes(t, "too many nodes", bare(api.MaxNodes+1), api.ErrPackLong)
	wantNoProof(t, "too many bytes", strings.Repeat("\x00", api.MaxCert+1), api.ErrPackLong)
	wantBack(t, some())
}

func TestSeveralGoroutines(t *testing.T) {
	all := proofs()
	var group sync.WaitGroup
	for range 8 {
		group.Go(func() {
			for range 20 {
				for _, c := range all {
					want := written(c)
					s, e := pack.Put(c)
					back, f := pack.Get(want)
					if s != want || e != api.OK || f != api.OK || !alike(back, c) {
						t.Errorf("R5: %s: %q, %d; %s, %d", brief(c), s, e, brief(back), f)
					}
				}
			}
		})
	}
	group.Wait()
}

// TestAnyNumbers: R1: no numbers make a panic; they have bytes just if all fit.
func TestAnyNumbers(t *testing.T) {
	r := samples.Numbers(184)
	ends := []int{math.MinInt, -1 << 32, -256, -1, 0, 1, 2, 255, 256, 65535, 65536, 1<<32 - 1, 1 << 32, math.MaxInt}
	fit, not := 0, 0
	for range 20000 {
		c := samples.RoomyCert(r.Cert())
		fits := true
		for range 1 + r.Next(2) {
			all := append(slots(c, &c.Root), zeros(c)...)
			at := all[r.Next(len(all))]
			*at.at = ends[r.Next(len(ends))]
		}
		for _, at := range append(slots(c, &c.Root), zeros(c)...) {
			fits = fits && *at.at >= 0 && *at.at <= at.most
		}
		if fits {
			wantBack(t, c)
			fit++
		} else {
			wantNoBytes(t, "any numbers", c, api.ErrPackForm)
			not++
		}
	}
	if fit < 1000 || not < 1000 {
		t.Errorf("%d fit, %d do not", fit, not)
	}
}

// TestAnyBytes: R1: no bytes make a panic.
func TestAnyBytes(t *testing.T) {
	r := samples.Numbers(185)
	for range 20000 {
		s := []byte("TC\x00\x00\x00\x00\x00\x00\x00\x01")[:2+8*r.Next(2)]
		for range r.Next(60) {
			s = append(s, byte(r.Next(1+r.Next(256))))
		}
		wantEither(t, "any bytes", string(s))
		wantEither(t, "any bytes without a mark", string(s[2:]))
	}
}

// TestGreatProofs: R1: what is far too much is refused in a time that its size
// explains.
func TestGreatProofs(t *testing.T) {
	wantNoBytes(t, "nodes", bare(1<<22), api.ErrPackLong)
	wantNoBytes(t, "kids", picked(1, 1<<24), api.ErrPackForm)
	wantNoBytes(t, "picks", picked(1<<22, 0), api.ErrPackForm)
	wantNoBytes(t, "picks and kids", picked(65535, 255), api.ErrPackLong)
	c := picked(65535, 255)
	c.Nodes[0].Picks[65534].Kids[254] = -1
	wantNoBytes(t, "the last kid", c, api.ErrPackForm)
}
