package pack_test

import (
	"bytes"
	"encoding/binary"
	"fmt"
	"strings"
	"testing"

	"temple/api"
	"temple/pack"
	"temple/samples"
)

// Here stands chapter 18 once more, by the library's rows of numbers, and what
// the tests hold against it.

type headRow struct {
	Mark        [2]byte
	Root, Nodes uint32
}

type nodeRow struct {
	Sign, Kind      uint8
	Name, Rule      uint16
	Conj, Pos, I, J uint8
	Rank            uint32
	Picks           uint16
}

type pickRow struct {
	At         uint16
	Conj, Kids uint8
}

// written is the bytes of a proof whose numbers fit.
func written(c api.Cert) string {
	var out bytes.Buffer
	add := func(row any) {
		if binary.Write(&out, binary.BigEndian, row) != nil {
			panic("no row of numbers")
		}
	}
	add(headRow{[2]byte{'T', 'C'}, uint32(c.Root), uint32(len(c.Nodes))})
	for _, n := range c.Nodes {
		row := nodeRow{0, uint8(n.Kind), uint16(n.Name), uint16(n.Place.Rule), uint8(n.Place.Conj), uint8(n.Place.Pos),
			uint8(n.I), uint8(n.J), uint32(n.Rank), uint16(len(n.Picks))}
		if n.Sign {
			row.Sign = 1
		}
		add(row)
		for _, p := range n.Picks {
			add(pickRow{uint16(p.At), uint8(p.Conj), uint8(len(p.Kids))})
			for _, kid := range p.Kids {
				add(uint32(kid))
			}
		}
	}
	return out.String()
}

// read is the proof of some bytes, if they are one's.
func read(s string) (api.Cert, bool) {
	from := strings.NewReader(s)
	take := func(row any) bool { return binary.Read(from, binary.BigEndian, row) == nil }
	var head headRow
	if !take(&head) || head.Mark != [2]byte{'T', 'C'} || head.Nodes > api.MaxNodes {
		return api.Cert{}, false
	}
	c := api.Cert{Root: int(head.Root)}
	for range head.Nodes {
		var row nodeRow
		place := func() bool { return row.Rule != 0 || row.Conj != 0 || row.Pos != 0 }
		if !take(&row) || row.Sign > 1 || row.Kind > 1 || row.Kind == 0 && place() || row.Kind == 1 && row.Name != 0 {
			return api.Cert{}, false
		}
		n := api.Node{Sign: row.Sign == 1, Kind: int(row.Kind), Name: int(row.Name), I: int(row.I), J: int(row.J), Rank: int(row.Rank)}
		n.Place = api.Place{Rule: int(row.Rule), Conj: int(row.Conj), Pos: int(row.Pos)}
		for range row.Picks {
			var pick pickRow
			if !take(&pick) {
				return api.Cert{}, false
			}
			p := api.Pick{At: int(pick.At), Conj: int(pick.Conj)}
			for range pick.Kids {
				var kid uint32
				if !take(&kid) {
					return api.Cert{}, false
				}
				p.Kids = append(p.Kids, int(kid))
			}
			n.Picks = append(n.Picks, p)
		}
		c.Nodes = append(c.Nodes, n)
	}
	return c, from.Len() == 0
}

// brief tells the beginning of something that may be long.
func brief(x any) string {
	return fmt.Sprintf("%.300s", fmt.Sprintf("%+v", x))
}

// alike: are two proofs the same, whatever room their lists have?
func alike(a, b api.Cert) bool {
	return samples.SameCert(samples.RoomyCert(a), samples.RoomyCert(b))
}

// wantBytes: P18.1: what Put answers of a proof that has bytes.
func wantBytes(t *testing.T, c api.Cert, want string) {
	t.Helper()
	if s, e := pack.Put(c); s != want || e != api.OK {
		t.Fatalf("P18.1: Put(%s) = %.300q, %d, not %.300q", brief(c), s, e, want)
	}
}

// wantNoBytes: P18.1: what Put refuses; R2: there are no bytes beside it.
func wantNoBytes(t *testing.T, what string, c api.Cert, want api.Errno) {
	t.Helper()
	if s, e := pack.Put(c); s != "" || e != want {
		t.Fatalf("P18.1: %s: Put(%s) = %.300q, %d, not %d", what, brief(c), s, e, want)
	}
}

// wantProof: P18.2: what Get answers of a proof's bytes.
func wantProof(t *testing.T, s string, want api.Cert) {
	t.Helper()
	if c, e := pack.Get(s); !alike(c, want) || e != api.OK {
		t.Fatalf("P18.2: Get(%.300q) = %s, %d, not %s", s, brief(c), e, brief(want))
	}
}

// wantNoProof: P18.2: what Get refuses; R2: there is no proof beside it.
func wantNoProof(t *testing.T, what, s string, want api.Errno) {
	t.Helper()
	if c, e := pack.Get(s); !alike(c, api.Cert{}) || e != want {
		t.Fatalf("P18.2: %s: Get(%.300q) = %s, %d, not %d", what, s, brief(c), e, want)
	}
}

// wantBack: P18.3: a proof is those bytes, and they are it.
func wantBack(t *testing.T, c api.Cert) {
	t.Helper()
	s := written(c)
	wantBytes(t, c, s)
	wantProof(t, s, c)
}

// wantEither: P18.2: Get reads some bytes, or refuses them, as the chapter says;
// P18.3: what it reads is these bytes again. Are they a proof's?
func wantEither(t *testing.T, what, s string) bool {
	t.Helper()
	c, ok := read(s)
	if !ok {
		wantNoProof(t, what, s, api.ErrPackForm)
		return false
	}
	wantProof(t, s, c)
	wantBytes(t, c, s)
	return true
}

// slot is a number of a proof, and the greatest that fits there.
type slot struct {
	what string
	at   *int
	most int
}

// slots is all numbers of a proof of which many fit.
func slots(c api.Cert, root *int) []slot {
	out := []slot{{"Root", root, 1<<32 - 1}}
	for i := range c.Nodes {
		n := &c.Nodes[i]
		out = append(out, slot{"I", &n.I, 255}, slot{"J", &n.J, 255}, slot{"Rank", &n.Rank, 1<<32 - 1})
		if n.Kind == api.NodeName {
			out = append(out, slot{"Name", &n.Name, 65535})
		} else {
			out = append(out, slot{"Rule", &n.Place.Rule, 65535}, slot{"Conj", &n.Place.Conj, 255}, slot{"Pos", &n.Place.Pos, 255})
		}
		for j := range n.Picks {
			p := &n.Picks[j]
			out = append(out, slot{"At", &p.At, 65535}, slot{"a pick's Conj", &p.Conj, 255})
			for k := range p.Kids {
				out = append(out, slot{"a kid", &p.Kids[k], 1<<32 - 1})
			}
		}
	}
	return out
}

// zeros is all numbers of a proof that are nothing but 0.
func zeros(c api.Cert) []slot {
	var out []slot
	for i := range c.Nodes {
		n := &c.Nodes[i]
		if n.Kind == api.NodeName {
			out = append(out, slot{"Rule of a name", &n.Place.Rule, 0}, slot{"Conj of a name", &n.Place.Conj, 0}, slot{"Pos of a name", &n.Place.Pos, 0})
		} else {
			out = append(out, slot{"Name of a place", &n.Name, 0})
		}
	}
	return out
}
