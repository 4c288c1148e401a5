package samples

import "temple/api"

// Three bytes are enough for texts of which names have some and have some not.
const (
	firstByte = 'a'
	someBytes = 3
)

// MixedText is a text of many different pieces, of bytes that Leveled has, as long
// as a text can be.
const MixedText = "abcabbccaaabacbcabacabaaabbbccca"

// Text is any text of up to so many bytes, of those that Leveled has.
func (r *Numbers) Text(most int) string {
	var out []byte
	for range r.Next(most + 1) {
		out = append(out, byte(firstByte+r.Next(someBytes)))
	}
	return string(out)
}

// Leveled is any grammar that may be, of up to so many names, in which no
// cycle has a negation: names stand at heights, and negations lead down.
func (r *Numbers) Leveled(most int) api.Grammar {
	g := Named(1 + r.Next(most))
	g.Start = r.Next(len(g.Names))
	heights := make([]int, len(g.Names))
	for i := range heights {
		heights[i] = r.Next(4)
	}
	for head := range g.Names {
		for range 1 + r.Next(3) {
			x := Rule(head)
			for range 1 + r.Next(3)*r.Next(2) {
				x.Conj = append(x.Conj, r.leveledConjunct(heights, heights[head]))
			}
			g.Rules = append(g.Rules, x)
		}
	}
	return g
}

// leveledConjunct is any conjunct of a name of some height.
func (r *Numbers) leveledConjunct(heights []int, height int) api.Conjunct {
	c := api.Conjunct{Neg: r.Next(4) == 0}
	highest := height
	if c.Neg {
		highest--
	}
	names := upTo(heights, highest)
	for range r.Next(4) {
		if len(names) > 0 && r.Next(2) == 0 {
			c.Seq = append(c.Seq, Ref(names[r.Next(len(names))]))
		} else {
			lo := r.Next(someBytes)
			c.Seq = append(c.Seq, Span(firstByte+lo, firstByte+lo+r.Next(someBytes-lo)))
		}
	}
	return c
}

// upTo is the names that stand at most so high.
func upTo(heights []int, highest int) []int {
	var out []int
	for name, h := range heights {
		if h <= highest {
			out = append(out, name)
		}
	}
	return out
}
