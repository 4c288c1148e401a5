package pack_test

import (
	"slices"
	"strings"
	"testing"

	"temple/api"
	"temple/pack"
	"temple/samples"
)

// Where the bytes of some() have what: the first node, which has two picks, is of
// a name, the second one, without any, of a place, and so is the third one.
const (
	headLength = 10
	nodeLength = 16
	firstNode  = headLength
	firstPick  = firstNode + nodeLength
	secondPick = firstPick + 12
	secondNode = secondPick + 4
	thirdNode  = secondNode + nodeLength
	thirdPick  = thirdNode + nodeLength
	fourthNode = thirdPick + 8
)

// with is some bytes with others from a place on.
func with(s string, at int, others string) string {
	return s[:at] + others + s[at+len(others):]
}

// proofs is proofs of which the tests change the bytes.
func proofs() []api.Cert {
	r := samples.Numbers(182)
	out := []api.Cert{{}, bare(1), bare(3), pair(), pair(1, 2, 3), picked(3, 0), picked(2, 5), picked(255, 0), picked(257, 0), some()}
	for range 20 {
		out = append(out, r.Cert())
	}
	return out
}

// TestProof: the proof of the bytes as they stand in the chapter.
func TestProof(t *testing.T) {
	wantProof(t, "TC\x00\x00\x00\x00\x00\x00\x00\x00", api.Cert{})
	wantProof(t, "TC\xff\xfe\xfd\xfc\x00\x00\x00\x00", api.Cert{Root: 0xfffefdfc})
	wantProof(t, "TC\x00\x00\x00\x09\x00\x00\x00\x01\x01\x01\x00\x00\x01\x02\x03\x04\x05\x06\x80\x00\x00\x07\x00\x01\x08\x09\x0a\x01\xf0\x00\x00\x0b",
		api.Cert{Root: 9, Nodes: []api.Node{{
			Sign: true, Kind: api.NodeSeq, Place: api.Place{Rule: 258, Conj: 3, Pos: 4}, I: 5, J: 6, Rank: 0x80000007,
			Picks: []api.Pick{{At: 0x0809, Conj: 10, Kids: []int{0xf000000b}}},
		}}})
	wantProof(t, "TC\x00\x00\x00\x00\x00\x00\x00\x01\x00\x00\x01\x02\x00\x00\x00\x00\x03\x04\x00\x00\x00\x05\x00\x00",
		api.Cert{Nodes: []api.Node{{Kind: api.NodeName, Name: 258, I: 3, J: 4, Rank: 5}}})
}

// TestTooLong: by the length alone, whatever the bytes are; of just as many as
// may be none are a proof's.
func TestTooLong(t *testing.T) {
	full := written(longest()[0])
	wantProof(t, full, longest()[0])
	for what, s := range map[string]string{"zeros": "", "the mark": "TC", "a proof": written(some()), "the longest proof": full, "another mark": "TD"} {
		for _, more := range []string{"\x00", "x", "\xff"} {
			s := s + strings.Repeat(more, api.MaxCert+1-len(s))
			wantNoProof(t, what, s[:api.MaxCert], api.ErrPackForm)
			wantNoProof(t, what, s, api.ErrPackLong)
			wantNoProof(t, what, s+more, api.ErrPackLong)
		}
	}
	for _, c := range longest() {
		for _, d := range longer(c) {
			wantNoProof(t, "too many bytes", written(d), api.ErrPackLong)
		}
	}
	wantNoProof(t, "all nodes", written(bare(api.MaxNodes)), api.ErrPackLong)
	wantNoProof(t, "far too many bytes", strings.Repeat("TC", 10*api.MaxCert), api.ErrPackLong)
}

// TestOtherMarks: other bytes at the front.
func TestOtherMarks(t *testing.T) {
	s := written(some())
	for front := range 1 << 16 {
		mark := string([]byte{byte(front >> 8), byte(front)})
		if mark != "TC" {
			wantNoProof(t, "another mark", mark+s[2:], api.ErrPackForm)
		}
	}
	for _, front := range []string{"", "T", "C", "CT", "tc", "TTC", "TCC", "TCTC", " TC", "\x00TC"} {
		wantNoProof(t, "another mark", front+s[2:], api.ErrPackForm)
		wantNoProof(t, "nothing but a mark", front, api.ErrPackForm)
	}
}

// TestCut: bytes that end within each number, and ahead of each; and bytes
// behind the last node.
func TestCut(t *testing.T) {
	for _, c := range proofs() {
		s := written(c)
		for n := range len(s) {
			wantNoProof(t, "cut", s[:n], api.ErrPackForm)
		}
		for _, more := range []string{"\x00", "\x01", "x", "\xff", "TC", s, s[headLength:] + "\x00", strings.Repeat("\x00", nodeLength)} {
			wantNoProof(t, "more", s+more, api.ErrPackForm)
		}
	}
	s := written(longest()[1])
	for _, n := range []int{headLength, firstNode + nodeLength, 1000, 65536, len(s) / 2, len(s) - 16, len(s) - 1} {
		wantNoProof(t, "cut", s[:n], api.ErrPackForm)
	}
}

// TestCounts: counts that are greater than what is there, or less.
func TestCounts(t *testing.T) {
	s := written(some())
	for _, nodes := range []string{"\x00\x00\x00\x00", "\x00\x00\x00\x03", "\x00\x00\x00\x05", "\x00\x00\x01\x04", "\x00\x01\x00\x04", "\x01\x00\x00\x04", "\xff\xff\xff\xff", "\x80\x00\x00\x00"} {
		wantNoProof(t, "nodes", with(s, 6, nodes), api.ErrPackForm)
	}
	for _, at := range []int{firstNode, secondNode, thirdNode, fourthNode} {
		for _, picks := range []string{"\x00\x03", "\x00\x04", "\x01\x00", "\x7f\xff", "\xff\xff"} {
			wantNoProof(t, "picks", with(s, at+14, picks), api.ErrPackForm)
		}
	}
	wantNoProof(t, "fewer picks", with(s, firstNode+14, "\x00\x01"), api.ErrPackForm)
	for _, at := range []int{firstPick, secondPick, thirdPick} {
		for _, kids := range []string{"\x03", "\x10", "\x7f", "\xff"} {
			wantNoProof(t, "kids", with(s, at+3, kids), api.ErrPackForm)
		}
	}
	wantNoProof(t, "fewer kids", with(s, firstPick+3, "\x01"), api.ErrPackForm)
	last := written(pair(1, 2))
	for kids := range 256 {
		if kids != 2 {
			wantNoProof(t, "kids", with(last, firstPick+3, string([]byte{byte(kids)})), api.ErrPackForm)
		}
	}
}

// TestManyClaimed: as many nodes as may be, and more, of which only some are
// there: R1: they are refused in a time that the bytes explain.
func TestManyClaimed(t *testing.T) {
	for _, nodes := range []string{"\x00\x00\xff\xff", "\x00\x01\x00\x00", "\x00\x01\x00\x01", "\x00\x02\x00\x00", "\x00\xff\xff\xff", "\x7f\xff\xff\xff", "\x80\x00\x00\x00", "\xff\xff\xff\xff"} {
		s := "TC\x00\x00\x00\x00" + nodes
		for range 10000 {
			wantNoProof(t, "no nodes", s, api.ErrPackForm)
		}
		for _, more := range []int{1, 15, 16, 17, 160, 65536} {
			wantNoProof(t, "few nodes", s+strings.Repeat("\x00", more), api.ErrPackForm)
		}
		wantNoProof(t, "many nodes", s+strings.Repeat("\x00", api.MaxCert-len(s)), api.ErrPackForm)
	}
	node := strings.Repeat("\x00", 14) + "\xff\xff"
	for range 10000 {
		wantNoProof(t, "no picks", "TC\x00\x00\x00\x00\x00\x00\x00\x01"+node, api.ErrPackForm)
	}
}

// TestNoNode: a Sign or a Kind that is none, a name with a place, a place with a
// name: in each node, and each of their bytes.
func TestNoNode(t *testing.T) {
	for _, c := range []api.Cert{some(), {Nodes: []api.Node{{}, {Kind: api.NodeSeq}, {Kind: api.NodeSeq}, {}}}} {
		s := written(c)
		starts := []int{firstNode, secondNode, thirdNode, fourthNode}
		if len(c.Nodes[0].Picks) == 0 {
			starts = []int{10, 26, 42, 58}
		}
		for i, at := range starts {
			nothing := []int{4, 5, 6, 7}
			if c.Nodes[i].Kind == api.NodeSeq {
				nothing = []int{2, 3}
			}
			for b := 1; b < 256; b++ {
				one := string([]byte{byte(b)})
				if b > 1 {
					wantNoProof(t, "Sign", with(s, at, one), api.ErrPackForm)
					wantNoProof(t, "Kind", with(s, at+1, one), api.ErrPackForm)
				}
				for _, n := range nothing {
					wantNoProof(t, "a name with a place, or a place with a name", with(s, at+n, one), api.ErrPackForm)
				}
			}
		}
	}
}

// TestOneByte: one byte that is another one makes another proof, or none.
func TestOneByte(t *testing.T) {
	proof, none := 0, 0
	for _, c := range proofs() {
		s := written(c)
		if len(s) > 130 {
			continue // each change of each byte takes its time
		}
		for at := range len(s) {
			for b := range 256 {
				if byte(b) == s[at] {
					continue
				}
				other := with(s, at, string([]byte{byte(b)}))
				if !wantEither(t, "another byte", other) {
					none++
				} else if proof++; alike(c, got(t, other)) {
					t.Fatalf("P18.3: %q and %q: %s", s, other, brief(c))
				}
			}
		}
	}
	if proof < 100000 || none < 100000 {
		t.Errorf("%d proofs, %d none", proof, none)
	}
}

// got is the proof of bytes that are one's.
func got(t *testing.T, s string) api.Cert {
	t.Helper()
	c, e := pack.Get(s)
	if e != api.OK {
		t.Fatalf("P18.2: Get(%.300q): %d", s, e)
	}
	return c
}

// TestMixedBytes: a proof's bytes with any changes: some other bytes, some of
// them left out, twice, or more.
func TestMixedBytes(t *testing.T) {
	r := samples.Numbers(183)
	proof := 0
	for range 30000 {
		s := []byte(written(r.Cert()))
		for range 1 + r.Next(3) {
			at := r.Next(len(s))
			switch end := at + r.Next(min(20, len(s)-at)); r.Next(5) {
			case 0:
				s = slices.Delete(s, at, end)
			case 1:
				s = slices.Insert(s, at, slices.Clone(s[at:end])...)
			case 2:
				s[at]++
			case 3:
				s[at] = byte(r.Next(3))
			default:
				s[at] ^= 1 << r.Next(8)
			}
			if len(s) == 0 {
				break
			}
		}
		if wantEither(t, "mixed", string(s)) {
			proof++
		}
	}
	if proof < 1000 {
		t.Errorf("%d proofs", proof)
	}
}

// TestShortBytes: all proofs of few bytes: behind a head, any of some bytes.
func TestShortBytes(t *testing.T) {
	bytes := "\x00\x01\x02\xff"
	samples.EachChoice(6, len(bytes), func(chosen []int) {
		var s []byte
		for _, i := range chosen {
			s = append(s, bytes[i])
		}
		node := func(front, tail string) string {
			return "TC\x00\x00\x00\x00\x00\x00\x00\x01" + front + strings.Repeat("\x00", 16-len(front)-len(tail)) + tail
		}
		wantEither(t, "the front of a node", node(string(s), ""))
		wantEither(t, "picks", node("", string(s[:2]))+string(s[2:]))
		wantEither(t, "kids", node("", "\x00\x01")+string(s))
		wantEither(t, "a head", "TC"+string(s[:2])+"\x00\x00\x00\x00"+string(s[2:4]))
	})
}
