package samples

import (
	"math"
	"slices"

	"temple/api"
	"temple/gram"
	"temple/note"
)

// Read is the grammar of a text; of a text that has none, one that may not be.
func Read(text string) api.Grammar {
	raw, _, _ := note.Parse(text)
	g, _, _ := gram.Build(raw)
	return g
}

// AnyNumbers is Plain with other numbers in it, such as may be and such as
// may not.
func AnyNumbers() []api.Grammar {
	ends := []int{math.MinInt, -257, -2, -1, 0, 1, 2, 255, 256, 1 << 32, math.MaxInt}
	var out []api.Grammar
	EachChoice(3, len(ends), func(chosen []int) {
		a, b, c := ends[chosen[0]], ends[chosen[1]], ends[chosen[2]]
		g, h := Plain(), Plain()
		g.Rules[2].Conj[0].Seq[0] = api.Symbol{Name: a, Lo: b, Hi: c}
		h.Start, h.Rules[0].Head, h.Rules[2].Head = a, b, c
		out = append(out, g, h)
	})
	return out
}

// EachOrder tells each row of the numbers below n.
func EachOrder(n int, tell func(order []int)) {
	var grow func(begun []int)
	grow = func(begun []int) {
		if len(begun) == n {
			tell(begun)
		}
		for i := range n {
			if !slices.Contains(begun, i) {
				grow(append(slices.Clone(begun), i))
			}
		}
	}
	grow(nil)
}

// EachChoice tells each row of n numbers below some.
func EachChoice(n, below int, tell func(chosen []int)) {
	chosen := make([]int, n)
	for {
		tell(chosen)
		at := 0
		for at < n && chosen[at] == below-1 {
			chosen[at] = 0
			at++
		}
		if at == n {
			return
		}
		chosen[at]++
	}
}
