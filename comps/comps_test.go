package comps_test

import (
	"fmt"
	"slices"
	"sync"
	"testing"

	"temple/api"
	"temple/comps"
)

const biggest = int(^uint(0) >> 1)

func is(from, to int) api.Edge {
	return api.Edge{From: from, To: to}
}

func isNot(from, to int) api.Edge {
	return api.Edge{From: from, To: to, Neg: true}
}

// along is a row of edges that leads from each number to the next one told.
func along(numbers ...int) []api.Edge {
	var out []api.Edge
	for i := range len(numbers) - 1 {
		out = append(out, is(numbers[i], numbers[i+1]))
	}
	return out
}

// ring is a row of edges that comes back to where it began.
func ring(numbers ...int) []api.Edge {
	return along(append(numbers, numbers[0])...)
}

// below is the numbers from 0 below n.
func below(n int) []int {
	var out []int
	for i := range n {
		out = append(out, i)
	}
	return out
}

// falling is the numbers below n, the greatest one ahead.
func falling(n int) []int {
	out := below(n)
	slices.Reverse(out)
	return out
}

// turned is the edges with all ends, or all signs, the other way round.
func turned(es []api.Edge, turn func(e api.Edge) api.Edge) []api.Edge {
	var out []api.Edge
	for _, e := range es {
		out = append(out, turn(e))
	}
	return out
}

func negated(es []api.Edge) []api.Edge {
	return turned(es, func(e api.Edge) api.Edge { return isNot(e.From, e.To) })
}

func backwards(es []api.Edge) []api.Edge {
	return turned(es, func(e api.Edge) api.Edge { return api.Edge{From: e.To, To: e.From, Neg: e.Neg} })
}

// brief tells the beginning of edges that may be many.
func brief(es []api.Edge) string {
	return fmt.Sprintf("%d edges, %.300s", len(es), fmt.Sprint(es[:min(len(es), 50)]))
}

// want holds what hangs together against what it must be.
func want(t *testing.T, names int, es []api.Edge, least ...int) {
	t.Helper()
	if got, e := comps.Comps(names, es); !slices.Equal(got, least) || e != api.OK {
		t.Errorf("P7.1: Comps(%d, %s) = %v, %d, not %v", names, brief(es), got, e, least)
	}
}

// wantReached holds the numbers that one number reaches against what they
// must be.
func wantReached(t *testing.T, names int, es []api.Edge, from int, reached ...int) {
	t.Helper()
	var got []int
	for to := range names {
		if comps.Reaches(names, es, from, to) {
			got = append(got, to)
		}
	}
	if !slices.Equal(got, reached) {
		t.Errorf("P7.1: %d reaches %v, not %v, of %d names and %s", from, got, reached, names, brief(es))
	}
}

// wantNone: P7.1: what may not be has ErrCompsForm, and nothing in it reaches
// anything.
func wantNone(t *testing.T, names int, es []api.Edge) {
	t.Helper()
	if got, e := comps.Comps(names, es); got != nil || e != api.ErrCompsForm {
		t.Errorf("P7.1: Comps(%d, %s) = %v, %d", names, brief(es), got, e)
	}
	for _, from := range []int{-1, 0, 1, names - 1, names} {
		for _, to := range []int{-1, 0, 1, names - 1, names} {
			if comps.Reaches(names, es, from, to) {
				t.Errorf("P7.1: Reaches(%d, %s, %d, %d)", names, brief(es), from, to)
			}
		}
	}
}

func TestNoNames(t *testing.T) {
	for _, es := range [][]api.Edge{nil, {}} {
		want(t, 0, es)
		if got, e := comps.Comps(0, es); got != nil || e != api.OK {
			t.Errorf("P7.1: %v, %d: a list of none is nil", got, e)
		}
		if comps.Reaches(0, es, 0, 0) {
			t.Error("P7.1: 0 is none of no names")
		}
	}
}

func TestNoEdges(t *testing.T) {
	for names := range api.MaxNames + 1 {
		want(t, names, nil, below(names)...)
		want(t, names, []api.Edge{}, below(names)...)
		for from := range names {
			wantReached(t, names, nil, from, from)
		}
	}
}

// TestHowManyNames: from none to the most may be; one below, one above and
// what is far off may not.
func TestHowManyNames(t *testing.T) {
	want(t, 1, nil, 0)
	want(t, api.MaxNames, nil, below(api.MaxNames)...)
	for _, names := range []int{-1, -2, -api.MaxNames, -biggest, -biggest - 1} {
		wantNone(t, names, nil)
		wantNone(t, names, along(0, 1))
	}
	for _, names := range []int{api.MaxNames + 1, 2 * api.MaxNames, 1 << 32, biggest} {
		wantNone(t, names, nil)
		wantNone(t, names, along(0, 1))
	}
}

// TestEnds breaks one end of one edge among many, in each place of their row.
func TestEnds(t *testing.T) {
	for _, names := range []int{2, 3, 63, api.MaxNames} {
		for _, wrong := range []int{-1, -2, -64, -biggest - 1, names, names + 1, names + 64, biggest} {
			for at := range 4 {
				es := []api.Edge{is(0, 1), isNot(1, 0), is(1, 1), isNot(names-1, 0)}
				es[at].From = wrong
				wantNone(t, names, es)
				es[at].From, es[at].To = 0, wrong
				wantNone(t, names, es)
				es[at].From = wrong
				wantNone(t, names, es)
				wantNone(t, names, es[at:at+1])
			}
		}
	}
}

func TestEndsOfFewNames(t *testing.T) {
	for _, wrong := range []int{-1, 0, 1, biggest} {
		wantNone(t, 0, []api.Edge{is(0, wrong)})
		wantNone(t, 0, []api.Edge{isNot(wrong, 0)})
	}
	wantNone(t, 1, along(0, 1))
	wantNone(t, 1, along(1, 0))
	want(t, 1, along(0, 0), 0)
	last := api.MaxNames - 1
	want(t, api.MaxNames, along(last, last, 0), below(api.MaxNames)...)
}

func TestAlone(t *testing.T) {
	want(t, 1, nil, 0)
	want(t, 2, along(0, 1), 0, 1)
	want(t, 2, along(1, 0), 0, 1)
	want(t, 3, []api.Edge{is(0, 1), is(0, 2)}, 0, 1, 2)
	want(t, 3, []api.Edge{is(1, 0), is(2, 0)}, 0, 1, 2)
	want(t, 4, along(3, 1, 0, 2), 0, 1, 2, 3)
	// Two ways to one number are no ring.
	want(t, 4, []api.Edge{is(0, 1), is(0, 2), is(1, 3), is(2, 3)}, 0, 1, 2, 3)
}

func TestRings(t *testing.T) {
	want(t, 2, ring(0, 1), 0, 0)
	want(t, 2, ring(1, 0), 0, 0)
	want(t, 3, ring(0, 2), 0, 1, 0)
	want(t, 3, ring(1, 2), 0, 1, 1)
	want(t, 4, ring(3, 1), 0, 1, 2, 1)
	want(t, 5, ring(4, 2, 3), 0, 1, 2, 2, 2)
	want(t, 5, slices.Concat(ring(4, 0), ring(3, 1)), 0, 1, 2, 1, 0)
	// What leads to a ring, or away from it, is not in it.
	want(t, 4, append(ring(1, 2), is(0, 1), is(2, 3)), 0, 1, 1, 3)
	// Two rings that share a number are one.
	want(t, 5, slices.Concat(ring(4, 3), ring(3, 1)), 0, 1, 2, 1, 1)
	want(t, 5, slices.Concat(ring(1, 2, 3), ring(3, 4)), 0, 1, 1, 1, 1)
}

func TestRingOfAll(t *testing.T) {
	for names := 1; names <= api.MaxNames; names++ {
		all := make([]int, names)
		want(t, names, ring(below(names)...), all...)
		want(t, names, ring(falling(names)...), all...)
		want(t, names, along(below(names)...), below(names)...)
		for from := range names {
			wantReached(t, names, ring(below(names)...), from, below(names)...)
		}
	}
}

func TestTwoRings(t *testing.T) {
	two := slices.Concat(ring(0, 2, 4), ring(1, 3, 5))
	apart, one := []int{0, 1, 0, 1, 0, 1}, make([]int, 6)
	want(t, 6, two, apart...)
	for _, a := range []int{0, 2, 4} {
		for _, b := range []int{1, 3, 5} {
			there := append(slices.Clone(two), is(a, b))
			want(t, 6, there, apart...)
			wantReached(t, 6, there, a, below(6)...)
			wantReached(t, 6, there, b, 1, 3, 5)
			back := append(slices.Clone(two), isNot(b, a))
			want(t, 6, back, apart...)
			wantReached(t, 6, back, a, 0, 2, 4)
			wantReached(t, 6, back, b, below(6)...)
			want(t, 6, slices.Concat(there, back), one...)
		}
	}
}

// TestTheLeastAndTheLast: the first and the last bit of a row are bits like
// others.
func TestTheLeastAndTheLast(t *testing.T) {
	last := api.MaxNames - 1
	least := below(api.MaxNames)
	least[last] = 0
	want(t, api.MaxNames, ring(0, last), least...)
	wantReached(t, api.MaxNames, along(0, last), 0, 0, last)
	wantReached(t, api.MaxNames, along(0, last), last, last)
	wantReached(t, api.MaxNames, along(last, 0), last, 0, last)
	least[last] = last - 1
	want(t, api.MaxNames, ring(last, last-1), least...)
}

func TestEdgesToThemselves(t *testing.T) {
	want(t, 1, []api.Edge{is(0, 0)}, 0)
	want(t, 3, []api.Edge{is(1, 1), isNot(2, 2), is(0, 2)}, 0, 1, 2)
	wantReached(t, 3, []api.Edge{is(1, 1), isNot(0, 0)}, 0, 0)
	wantReached(t, 3, []api.Edge{is(1, 1), isNot(0, 0)}, 1, 1)
	want(t, 3, append(ring(1, 2), is(1, 1), is(2, 2)), 0, 1, 1)
}

func TestTheSameEdgeAgain(t *testing.T) {
	want(t, 2, []api.Edge{is(0, 1), is(0, 1), is(0, 1)}, 0, 1)
	want(t, 2, []api.Edge{is(0, 1), isNot(0, 1), is(0, 1)}, 0, 1)
	want(t, 3, []api.Edge{is(1, 2), is(1, 2), is(2, 1), is(2, 1)}, 0, 1, 1)
	wantReached(t, 3, []api.Edge{is(0, 1), is(0, 1)}, 0, 0, 1)
	wantReached(t, 3, []api.Edge{is(0, 1), is(0, 1)}, 1, 1)
	es := ring(0, 2, 3)
	for range 3 {
		es = append(es, es...)
		want(t, 4, es, 0, 1, 0, 0)
	}
}

func TestNegatedEdges(t *testing.T) {
	want(t, 2, []api.Edge{isNot(0, 1), isNot(1, 0)}, 0, 0)
	want(t, 2, []api.Edge{is(0, 1), isNot(1, 0)}, 0, 0)
	want(t, 2, []api.Edge{isNot(0, 1), is(1, 0)}, 0, 0)
	want(t, 2, []api.Edge{isNot(0, 1)}, 0, 1)
	wantReached(t, 3, []api.Edge{isNot(0, 1), is(1, 2)}, 0, 0, 1, 2)
	wantReached(t, 3, []api.Edge{is(0, 1), isNot(1, 2)}, 0, 0, 1, 2)
	want(t, 6, negated(slices.Concat(ring(5, 1, 3), along(5, 0, 2))), 0, 1, 2, 1, 4, 1)
}

// TestAllOrders: whatever the row of the edges, what hangs together is the
// same.
func TestAllOrders(t *testing.T) {
	es := []api.Edge{is(4, 2), isNot(2, 1), is(1, 4), is(1, 3), isNot(3, 0), is(3, 3)}
	eachOrder(es, func(es []api.Edge) {
		want(t, 5, es, 0, 1, 1, 3, 1)
		wantReached(t, 5, es, 2, below(5)...)
		wantReached(t, 5, es, 3, 0, 3)
		wantReached(t, 5, es, 0, 0)
	})
}

// eachOrder tells the edges in each row that they can stand in.
func eachOrder(es []api.Edge, tell func(es []api.Edge)) {
	var grow func(begun, rest []api.Edge)
	grow = func(begun, rest []api.Edge) {
		if len(rest) == 0 {
			tell(begun)
		}
		for i, e := range rest {
			grow(append(slices.Clone(begun), e), slices.Delete(slices.Clone(rest), i, i+1))
		}
	}
	grow(nil, es)
}

// TestLongRows: Reaches goes along a row to its end and not against it,
// however its numbers stand and whichever way its edges are told.
func TestLongRows(t *testing.T) {
	mixed := below(api.MaxNames)
	for i := range mixed {
		mixed[i] = i * 27 % api.MaxNames
	}
	for _, numbers := range [][]int{below(api.MaxNames), falling(api.MaxNames), mixed} {
		es := along(numbers...)
		told := slices.Clone(es)
		slices.Reverse(told)
		for _, es := range [][]api.Edge{es, told, negated(es)} {
			want(t, api.MaxNames, es, below(api.MaxNames)...)
			for i, from := range numbers {
				wantReached(t, api.MaxNames, es, from, slices.Sorted(slices.Values(numbers[i:]))...)
				wantReached(t, api.MaxNames, backwards(es), from, slices.Sorted(slices.Values(numbers[:i+1]))...)
			}
		}
	}
}

// TestReachesItself: no edges are needed from a number to itself.
func TestReachesItself(t *testing.T) {
	for _, es := range [][]api.Edge{nil, along(0, 1, 2), ring(2, 1), {is(1, 1)}} {
		for i := range 3 {
			if !comps.Reaches(3, es, i, i) {
				t.Errorf("P7.1: %d does not reach itself by %v", i, es)
			}
		}
	}
}

// TestReachesOfNoEnds: a number that is none reaches nothing, not even
// itself, and is not reached.
func TestReachesOfNoEnds(t *testing.T) {
	for _, names := range []int{0, 1, 2, 63, api.MaxNames} {
		var es []api.Edge
		if names > 0 {
			es = ring(below(names)...)
		}
		for _, wrong := range []int{-1, -2, -64, -biggest - 1, names, names + 1, names + 64, biggest} {
			for _, other := range []int{0, names - 1, wrong, wrong - 1, wrong + 1} {
				if comps.Reaches(names, es, wrong, other) || comps.Reaches(names, es, other, wrong) {
					t.Errorf("P7.1: of %d names, %d and %d", names, wrong, other)
				}
			}
		}
	}
}

// plainly is the chapter's sentence once more: what each number reaches, by a
// list that grows till no edge adds to it.
func plainly(names int, es []api.Edge) [][]int {
	var out [][]int
	for from := range names {
		reached := []int{from}
		for more := true; more; {
			more = false
			for _, e := range es {
				if slices.Contains(reached, e.From) && !slices.Contains(reached, e.To) {
					reached = append(reached, e.To)
					more = true
				}
			}
		}
		slices.Sort(reached)
		out = append(out, reached)
	}
	return out
}

// wantPlainly holds both calls against the chapter's sentence.
func wantPlainly(t *testing.T, names int, es []api.Edge) {
	t.Helper()
	reached := plainly(names, es)
	var least []int
	for i := range names {
		at := slices.IndexFunc(reached[i], func(j int) bool { return slices.Contains(reached[j], i) })
		least = append(least, reached[i][at])
		wantReached(t, names, es, i, reached[i]...)
	}
	want(t, names, es, least...)
}

// TestAllSmallOnes holds all sets of edges among up to four names against the
// chapter's sentence; an edge's sign hangs on its ends.
func TestAllSmallOnes(t *testing.T) {
	for names := range 5 {
		for set := range 1 << (names * names) {
			var es []api.Edge
			for i := range names * names {
				if set>>i&1 == 1 {
					es = append(es, api.Edge{From: i / names, To: i % names, Neg: i%3 == 0})
				}
			}
			wantPlainly(t, names, es)
		}
	}
}

// numbers is a row of numbers that looks like chance and is always the same.
type numbers uint64

func (r *numbers) next(n int) int {
	*r = *r*6364136223846793005 + 1442695040888963407
	return int(uint64(*r) >> 33 % uint64(n))
}

// edges is so many edges among some names.
func (r *numbers) edges(names, many int) []api.Edge {
	var out []api.Edge
	for range many {
		out = append(out, api.Edge{From: r.next(names), To: r.next(names), Neg: r.next(2) == 0})
	}
	return out
}

func TestMixedEdges(t *testing.T) {
	r := numbers(7)
	for range 3000 {
		names := 1 + r.next(9)
		wantPlainly(t, names, r.edges(names, r.next(14)))
	}
	// About as many edges as names is where rings of all sizes come up.
	for range 100 {
		names := api.MaxNames - r.next(3)
		wantPlainly(t, names, r.edges(names, names/2+r.next(2*names)))
	}
}

// TestMostEdges: each edge that there can be, once and many times.
func TestMostEdges(t *testing.T) {
	var es, up []api.Edge
	for from := range api.MaxNames {
		for to := range api.MaxNames {
			es = append(es, is(from, to), isNot(from, to))
			if from < to {
				up = append(up, is(from, to))
			}
		}
	}
	want(t, api.MaxNames, es, make([]int, api.MaxNames)...)
	want(t, api.MaxNames, up, below(api.MaxNames)...)
	for from := range api.MaxNames {
		wantReached(t, api.MaxNames, up, from, below(api.MaxNames)[from:]...)
	}
	for len(es) < 1<<20 {
		es = append(es, es...)
	}
	want(t, api.MaxNames, es, make([]int, api.MaxNames)...)
	wantNone(t, api.MaxNames, append(es, is(0, api.MaxNames)))
}

// TestAnyNumbers: R1: no numbers make a panic; what may be is told as the
// chapter says it, all else is refused.
func TestAnyNumbers(t *testing.T) {
	ends := []int{-biggest - 1, -65, -64, -1, 0, 1, 2, 62, 63, 64, 65, 128, 1 << 32, biggest}
	for _, names := range ends {
		for _, a := range ends {
			for _, b := range ends {
				es := []api.Edge{is(a, b), isNot(b, a)}
				may := 0 <= min(a, b) && max(a, b) < names && names <= api.MaxNames
				if may {
					wantPlainly(t, names, es)
				} else {
					wantNone(t, names, es)
				}
				if comps.Reaches(names, nil, a, b) != (may && a == b) || comps.Reaches(names, es, a, b) != may {
					t.Errorf("P7.1: of %d names, %d and %d", names, a, b)
				}
			}
		}
	}
}

// roomy is some edges with spare room behind them that would be seen.
func roomy() []api.Edge {
	es := append(make([]api.Edge, 0, 8), is(3, 1), isNot(1, 2), is(2, 3), is(1, 1))
	return append(es, is(2, 0), isNot(0, 2), is(-1, 99))[:len(es)]
}

// TestEdgesStayAsTheyWere: R4: what is handed in is not changed, its spare
// room neither nor read, and answers do not hang on it any more.
func TestEdgesStayAsTheyWere(t *testing.T) {
	es := roomy()
	before := slices.Clone(es[:cap(es)])
	// Four names may be; three make an edge's end none.
	for _, names := range []int{4, 3, -1, 65} {
		comps.Comps(names, es)
		comps.Reaches(names, es, 3, 2)
		comps.Reaches(names, es, 9, -9)
		if !slices.Equal(es[:cap(es)], before) {
			t.Errorf("R4: %v, not %v", es[:cap(es)], before)
		}
	}
	least, _ := comps.Comps(4, es)
	for i := range es {
		es[i] = is(0, 0)
	}
	if !slices.Equal(least, []int{0, 1, 1, 1}) {
		t.Errorf("R4: %v", least)
	}
	want(t, 4, roomy(), 0, 1, 1, 1)
	wantReached(t, 4, roomy(), 3, 1, 2, 3)
}

// TestAnswersAreApart: R4: whoever changes an answer, its spare room too,
// changes no other one.
func TestAnswersAreApart(t *testing.T) {
	one, _ := comps.Comps(4, roomy())
	other, _ := comps.Comps(4, roomy())
	for i := range one[:cap(one)] {
		one[:cap(one)][i] = 9
	}
	if !slices.Equal(other, []int{0, 1, 1, 1}) {
		t.Errorf("R4: %v", other)
	}
	want(t, 4, roomy(), 0, 1, 1, 1)
}

// TestNothingIsKept: R5: an answer hangs on its arguments alone; many times
// the same call answers the same.
func TestNothingIsKept(t *testing.T) {
	r := numbers(77)
	for range 200 {
		comps.Comps(api.MaxNames, r.edges(api.MaxNames, 100))
		comps.Comps(-1, nil)
		comps.Reaches(api.MaxNames, r.edges(api.MaxNames, 100), 0, 1)
		want(t, 4, roomy(), 0, 1, 1, 1)
		wantReached(t, 4, roomy(), 2, 1, 2, 3)
		wantReached(t, 4, nil, 2, 2)
	}
}

func TestSeveralGoroutines(t *testing.T) {
	es := roomy()
	var group sync.WaitGroup
	for range 8 {
		group.Go(func() {
			for range 100 {
				want(t, 4, es, 0, 1, 1, 1)
				wantReached(t, 4, es, 1, 1, 2, 3)
				wantNone(t, 3, es)
			}
		})
	}
	group.Wait()
}
