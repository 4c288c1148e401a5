package pack_test

import (
	"math"
	"strings"
	"testing"

	"temple/api"
	"temple/samples"
)

// some is a proof's form of several nodes of both kinds, with picks and kids and
// without, all numbers of which are different.
func some() api.Cert {
	return api.Cert{Root: 0x01020304, Nodes: []api.Node{
		{Sign: true, Kind: api.NodeName, Name: 0x0506, I: 7, J: 8, Rank: 0x090a0b0c, Picks: []api.Pick{
			{At: 0x0d0e, Conj: 15, Kids: []int{0x10111213, 0x14151617}},
			{At: 0x1819, Conj: 26},
		}},
		{Kind: api.NodeSeq, Place: api.Place{Rule: 0x1b1c, Conj: 29, Pos: 30}, I: 31, J: 32, Rank: 0x21222324},
		{Sign: true, Kind: api.NodeSeq, Place: api.Place{Rule: 0x2526, Conj: 39, Pos: 40}, I: 41, J: 42, Rank: 0x2b2c2d2e, Picks: []api.Pick{
			{At: 0x2f30, Conj: 49, Kids: []int{0x32333435}},
		}},
		{Kind: api.NodeName, Name: 0x3637, I: 56, J: 57, Rank: 0x3a3b3c3d},
	}}
}

// pair is a proof of one node with a pick.
func pair(kids ...int) api.Cert {
	return api.Cert{Nodes: []api.Node{{Picks: []api.Pick{{Kids: kids}}}}}
}

// bare is a proof of nodes that have 16 bytes each.
func bare(nodes int) api.Cert {
	return api.Cert{Nodes: make([]api.Node, nodes)}
}

// picked is a proof of one node with some picks that have as many kids each.
func picked(picks, kids int) api.Cert {
	n := api.Node{Picks: make([]api.Pick, picks)}
	for i := range n.Picks {
		n.Picks[i].Kids = make([]int, kids)
	}
	return api.Cert{Nodes: []api.Node{n}}
}

// TestBytes: the bytes as they stand in the chapter, one by one.
func TestBytes(t *testing.T) {
	wantBytes(t, api.Cert{}, "TC\x00\x00\x00\x00\x00\x00\x00\x00")
	wantBytes(t, api.Cert{Root: 258, Nodes: []api.Node{}}, "TC\x00\x00\x01\x02\x00\x00\x00\x00")
	wantBytes(t, bare(1), "TC\x00\x00\x00\x00\x00\x00\x00\x01"+strings.Repeat("\x00", 16))
	wantBytes(t, some(), "TC\x01\x02\x03\x04\x00\x00\x00\x04"+
		"\x01\x00\x05\x06\x00\x00\x00\x00\x07\x08\x09\x0a\x0b\x0c\x00\x02"+
		"\x0d\x0e\x0f\x02\x10\x11\x12\x13\x14\x15\x16\x17"+
		"\x18\x19\x1a\x00"+
		"\x00\x01\x00\x00\x1b\x1c\x1d\x1e\x1f\x20\x21\x22\x23\x24\x00\x00"+
		"\x01\x01\x00\x00\x25\x26\x27\x28\x29\x2a\x2b\x2c\x2d\x2e\x00\x01"+
		"\x2f\x30\x31\x01\x32\x33\x34\x35"+
		"\x00\x00\x36\x37\x00\x00\x00\x00\x38\x39\x3a\x3b\x3c\x3d\x00\x00")
	wantBytes(t, api.Cert{Root: math.MaxUint32, Nodes: []api.Node{
		{Sign: true, Kind: api.NodeSeq, Place: api.Place{Rule: 65535, Conj: 255, Pos: 255}, I: 255, J: 255, Rank: math.MaxUint32,
			Picks: []api.Pick{{At: 65535, Conj: 255, Kids: []int{math.MaxUint32}}}},
	}}, "TC\xff\xff\xff\xff\x00\x00\x00\x01\x01\x01\x00\x00"+strings.Repeat("\xff", 10)+"\x00\x01\xff\xff\xff\x01\xff\xff\xff\xff")
}

// TestAnyProofs: proofs of any numbers that fit.
func TestAnyProofs(t *testing.T) {
	r := samples.Numbers(181)
	nodes, kids := 0, 0
	for range 3000 {
		c := r.Cert()
		wantBack(t, c)
		for _, n := range c.Nodes {
			nodes++
			for _, p := range n.Picks {
				kids += len(p.Kids)
			}
		}
	}
	if nodes < 5000 || kids < 10000 {
		t.Errorf("%d nodes, %d kids", nodes, kids)
	}
}

// mayFit is numbers at the ends of what fits, and within.
func mayFit(most int) []int {
	out := []int{0, 1, 2, most / 3, most / 2, most/2 + 1, most - 1, most}
	for shift := 7; 1<<shift <= most; shift++ {
		out = append(out, 1<<shift-1, 1<<shift)
	}
	return out
}

// mayNotFit is numbers just beside what fits, and such as have the same lowest
// bytes as some that do.
func mayNotFit(most int) []int {
	out := []int{-1, -2, -most - 1, -most, most + 1, most + 2, 2 * (most + 1), 3*(most+1) + 1}
	out = append(out, math.MinInt, math.MinInt+1, math.MaxInt, math.MaxInt-1, -1<<40, 1<<40+1, -1<<32, 1<<62)
	for shift := 8; shift < 63; shift++ {
		if 1<<shift > most {
			out = append(out, 1<<shift, 1<<shift+1, -1<<shift, 1-1<<shift)
		}
	}
	return out
}

// TestEachNumber: each number of a proof at its ends, and beside them; what fits
// comes back.
func TestEachNumber(t *testing.T) {
	c := some()
	what := make(map[string]int)
	for _, at := range slots(c, &c.Root) {
		was := *at.at
		what[at.what]++
		for _, n := range mayFit(at.most) {
			*at.at = n
			wantBack(t, c)
		}
		for _, n := range mayNotFit(at.most) {
			*at.at = n
			wantNoBytes(t, at.what, c, api.ErrPackForm)
		}
		*at.at = was
	}
	wantBack(t, c)
	if len(what) != 11 {
		t.Errorf("%v", what)
	}
}

// TestNotZero: a name has no place, and a place no name.
func TestNotZero(t *testing.T) {
	c := some()
	what := make(map[string]int)
	for _, at := range zeros(c) {
		what[at.what]++
		for _, n := range append(mayNotFit(255), 1, 2, 128, 255, 256, 65535, 65536) {
			*at.at = n
			wantNoBytes(t, at.what, c, api.ErrPackForm)
		}
		*at.at = 0
	}
	wantBack(t, c)
	if len(what) != 4 {
		t.Errorf("%v", what)
	}
}

// TestNoKind: a Kind that is none, whatever else is zero.
func TestNoKind(t *testing.T) {
	kinds := append(mayNotFit(255), 2, 3, 127, 128, 255, 256, 257, 65536, 65537, 1<<32, 1<<32+1)
	for _, c := range []api.Cert{some(), bare(1), bare(3)} {
		for i := range c.Nodes {
			was := c.Nodes[i].Kind
			for _, kind := range kinds {
				c.Nodes[i].Kind = kind
				wantNoBytes(t, "Kind", c, api.ErrPackForm)
			}
			c.Nodes[i].Kind = was
		}
		wantBack(t, c)
	}
	// The other kind is one, but for what stands in the node.
	c := bare(2)
	c.Nodes[1].Kind = api.NodeSeq
	wantBack(t, c)
	d := some()
	d.Nodes[0].Kind = api.NodeSeq
	wantNoBytes(t, "a name as a place", d, api.ErrPackForm)
	d = some()
	d.Nodes[1].Kind = api.NodeName
	wantNoBytes(t, "a place as a name", d, api.ErrPackForm)
}

// TestHowMany: as many kids and picks as can be counted, and one more.
func TestHowMany(t *testing.T) {
	for _, kids := range []int{0, 1, 2, 3, 127, 128, 254, 255} {
		wantBack(t, picked(1, kids))
		wantBack(t, picked(3, kids))
	}
	for _, kids := range []int{256, 257, 258, 511, 512, 65536, 65537, 1 << 24} {
		wantNoBytes(t, "kids", picked(1, kids), api.ErrPackForm)
	}
	c := picked(3, 2)
	c.Nodes[0].Picks[2].Kids = make([]int, 256)
	wantNoBytes(t, "kids of the last pick", c, api.ErrPackForm)
	for _, picks := range []int{0, 1, 2, 255, 256, 257, 65534, 65535} {
		wantBack(t, picked(picks, 0))
	}
	wantBack(t, picked(65535, 2))
	for _, picks := range []int{65536, 65537, 65538, 131072, 1 << 20} {
		wantNoBytes(t, "picks", picked(picks, 0), api.ErrPackForm)
	}
	c = bare(3)
	c.Nodes[2].Picks = make([]api.Pick, 65536)
	wantNoBytes(t, "picks of the last node", c, api.ErrPackForm)
}

// longest is proofs of as many bytes as a proof can have: MaxCert is none of their
// lengths, as a node has 16, and picks and kids have four.
func longest() []api.Cert {
	byNodes := bare(65535)
	byNodes.Nodes[65534].Picks = make([]api.Pick, 1)
	byPicks := picked(65535, 3)
	byPicks.Nodes[0].Picks[7].Kids = nil
	byKids := picked(1023, 255)
	byKids.Nodes[0].Picks = append(byKids.Nodes[0].Picks, api.Pick{Kids: make([]int, 248)})
	mixed := picked(65534, 3)
	mixed.Nodes[0].Picks[65533].Kids = nil
	mixed.Nodes = append(mixed.Nodes, api.Node{Kind: api.NodeSeq})
	return []api.Cert{byNodes, byPicks, byKids, mixed}
}

// longer is the same with one item more: a node, a pick of the last node, a kid of
// its last pick.
func longer(c api.Cert) []api.Cert {
	node, pick, kid := samples.RoomyCert(c), samples.RoomyCert(c), samples.RoomyCert(c)
	node.Nodes = append(node.Nodes, api.Node{})
	out := []api.Cert{node}
	last := len(c.Nodes) - 1
	if picks := &pick.Nodes[last].Picks; len(*picks) < 65535 {
		*picks = append(*picks, api.Pick{})
		out = append(out, pick)
	}
	if picks := kid.Nodes[last].Picks; len(picks) > 0 {
		kids := &picks[len(picks)-1].Kids
		*kids = append(*kids, 0)
		out = append(out, kid)
	}
	return out
}

func TestLongest(t *testing.T) {
	for i, c := range longest() {
		if s := written(c); len(s) != api.MaxCert-2 {
			t.Fatalf("row %d: %d bytes", i, len(s))
		}
		wantBack(t, c)
		for j, d := range longer(c) {
			if s := written(d); len(s) <= api.MaxCert || len(s) > api.MaxCert+14 {
				t.Fatalf("row %d, %d: %d bytes", i, j, len(s))
			}
			wantNoBytes(t, "too many bytes", d, api.ErrPackLong)
		}
	}
}

// TestManyNodes: as many nodes as may be have ten bytes too many.
func TestManyNodes(t *testing.T) {
	wantBack(t, bare(api.MaxNodes-2))
	wantBack(t, bare(api.MaxNodes-1))
	for _, nodes := range []int{api.MaxNodes, api.MaxNodes + 1, api.MaxNodes + 2, 2 * api.MaxNodes, 1 << 20} {
		wantNoBytes(t, "many nodes", bare(nodes), api.ErrPackLong)
	}
}

// TestFormAheadOfLong: R6: of what is too long, too, it is told that a number
// does not fit, wherever that stands.
func TestFormAheadOfLong(t *testing.T) {
	all := longest()
	for _, c := range []api.Cert{all[0], all[1], all[2], bare(api.MaxNodes + 1)} {
		c.Nodes = append(c.Nodes, some().Nodes...)
		wantNoBytes(t, "too long", c, api.ErrPackLong)
		tail := api.Cert{Nodes: c.Nodes[len(c.Nodes)-4:]}
		for _, at := range append(append(slots(tail, &c.Root), zeros(tail)...), slot{"Kind", &tail.Nodes[3].Kind, 1}) {
			was := *at.at
			for _, n := range []int{-1, at.most + 1} {
				*at.at = n
				wantNoBytes(t, "too long, and "+at.what, c, api.ErrPackForm)
			}
			*at.at = was
		}
		tail.Nodes[3].Picks = make([]api.Pick, 65536)
		wantNoBytes(t, "too long, and picks", c, api.ErrPackForm)
		tail.Nodes[3].Picks = []api.Pick{{Kids: make([]int, 256)}}
		wantNoBytes(t, "too long, and kids", c, api.ErrPackForm)
		tail.Nodes[3].Picks = nil
		wantNoBytes(t, "too long", c, api.ErrPackLong)
	}
}
