package byteset_test

import (
	"math"
	"slices"
	"sync"
	"testing"

	"temple/api"
	"temple/byteset"
)

// set is the bytes of the runs, put in bit by bit, so that a fault of Range
// or Or does not hide itself.
func set(runs ...[2]int) api.Bytes {
	var b api.Bytes
	for _, run := range runs {
		for c := run[0]; c <= run[1]; c++ {
			b[c/64] |= 1 << (c % 64)
		}
	}
	return b
}

// every is each byte.
func every() api.Bytes {
	return api.Bytes{math.MaxUint64, math.MaxUint64, math.MaxUint64, math.MaxUint64}
}

// samples is sets with edges in, at and across the words.
func samples() []api.Bytes {
	return []api.Bytes{
		{},
		every(),
		set([2]int{0, 0}),
		set([2]int{255, 255}),
		set([2]int{0, 0}, [2]int{255, 255}),
		set([2]int{63, 64}),
		set([2]int{64, 127}),
		set([2]int{1, 254}),
		set([2]int{'0', '9'}, [2]int{'A', 'Z'}, [2]int{'a', 'z'}),
		set([2]int{'a', 'f'}, [2]int{0, 62}, [2]int{129, 191}, [2]int{193, 255}),
		{0x5555555555555555, 0xaaaaaaaaaaaaaaaa, 0x5555555555555555, 0xaaaaaaaaaaaaaaaa},
		{0x0123456789abcdef, 0xfedcba9876543210, 0x8000000000000001, 0x7ffffffffffffffe},
	}
}

func TestRange(t *testing.T) {
	cases := []struct {
		lo, hi int
		want   api.Bytes
	}{
		{'0', '9', api.Bytes{0x03ff000000000000, 0, 0, 0}},
		{'a', 'z', api.Bytes{0, 0x07fffffe00000000, 0, 0}},
		{0, 0, api.Bytes{1, 0, 0, 0}},
		{255, 255, api.Bytes{0, 0, 0, 1 << 63}},
		{0, 255, every()},
		{0, 63, api.Bytes{math.MaxUint64, 0, 0, 0}},
		{63, 64, api.Bytes{1 << 63, 1, 0, 0}},
		{127, 192, api.Bytes{0, 1 << 63, math.MaxUint64, 1}},
	}
	for _, c := range cases {
		got, e := byteset.Range(c.lo, c.hi)
		if e != api.OK || got != c.want {
			t.Errorf("P1.1: Range(%d, %d) = %x, %d", c.lo, c.hi, got, e)
		}
	}
}

func TestRangeOfEachPairOfEnds(t *testing.T) {
	for lo := range 256 {
		for hi := lo; hi < 256; hi++ {
			got, e := byteset.Range(lo, hi)
			if want := set([2]int{lo, hi}); e != api.OK || got != want {
				t.Fatalf("P1.1: Range(%d, %d) = %x, %d", lo, hi, got, e)
			}
		}
	}
}

func TestRangeOfWrongEnds(t *testing.T) {
	cases := [][2]int{
		{-1, 0}, {-1, 255}, {-1, -1}, {-2, -1},
		{0, 256}, {255, 256}, {256, 256}, {256, 257},
		{1, 0}, {255, 254}, {255, 0},
		{-1, 256}, {256, -1}, {0, -1}, {256, 255},
		{math.MinInt, math.MaxInt}, {math.MaxInt, math.MinInt},
		{math.MinInt, 5}, {5, math.MaxInt}, {math.MaxInt, math.MaxInt}, {math.MinInt, math.MinInt},
	}
	for _, c := range cases {
		got, e := byteset.Range(c[0], c[1])
		if e != api.ErrSetForm || got != (api.Bytes{}) {
			t.Errorf("P1.1: Range(%d, %d) = %x, %d", c[0], c[1], got, e)
		}
	}
}

func TestHas(t *testing.T) {
	b := set([2]int{0, 0}, [2]int{'a', 'c'}, [2]int{127, 128}, [2]int{255, 255})
	in := []int{0, 'a', 'b', 'c', 127, 128, 255}
	for c := range 256 {
		if byteset.Has(b, c) != slices.Contains(in, c) {
			t.Errorf("P1.1: Has(b, %d) = %v", c, byteset.Has(b, c))
		}
		if byteset.Has(api.Bytes{}, c) || !byteset.Has(every(), c) {
			t.Errorf("P1.1: %d in no byte, or not in each one", c)
		}
	}
}

func TestHasOfNoByte(t *testing.T) {
	for _, c := range []int{-1, -64, -255, -256, 256, 257, 319, 512, math.MinInt, math.MaxInt} {
		if byteset.Has(every(), c) {
			t.Errorf("P1.1: Has(every, %d)", c)
		}
	}
}

func TestOrAndMinusOfChosenSets(t *testing.T) {
	letters, hex := set([2]int{'a', 'z'}), set([2]int{'0', '9'}, [2]int{'a', 'f'})
	low, high := set([2]int{0, 127}), set([2]int{128, 255})
	none := api.Bytes{}
	cases := []struct {
		a, b, or, and, minus api.Bytes
	}{
		{letters, hex, set([2]int{'0', '9'}, [2]int{'a', 'z'}), set([2]int{'a', 'f'}), set([2]int{'g', 'z'})},
		{hex, letters, set([2]int{'0', '9'}, [2]int{'a', 'z'}), set([2]int{'a', 'f'}), set([2]int{'0', '9'})},
		{low, high, every(), none, low},
		{high, low, every(), none, high},
		{letters, none, letters, none, letters},
		{none, letters, letters, none, none},
		{none, none, none, none, none},
		{letters, letters, letters, letters, none},
		{every(), low, every(), low, high},
		{low, every(), every(), low, none},
		{every(), every(), every(), every(), none},
	}
	for i, c := range cases {
		if got := byteset.Or(c.a, c.b); got != c.or {
			t.Errorf("P1.1: case %d: Or = %x", i, got)
		}
		if got := byteset.And(c.a, c.b); got != c.and {
			t.Errorf("P1.1: case %d: And = %x", i, got)
		}
		if got := byteset.Minus(c.a, c.b); got != c.minus {
			t.Errorf("P1.1: case %d: Minus = %x", i, got)
		}
	}
}

func TestOrAndMinusByteByByte(t *testing.T) {
	for _, a := range samples() {
		for _, b := range samples() {
			or, and, minus := byteset.Or(a, b), byteset.And(a, b), byteset.Minus(a, b)
			for c := range 256 {
				x, y := byteset.Has(a, c), byteset.Has(b, c)
				if byteset.Has(or, c) != (x || y) || byteset.Has(and, c) != (x && y) || byteset.Has(minus, c) != (x && !y) {
					t.Fatalf("P1.1: %x and %x at %d", a, b, c)
				}
			}
		}
	}
}

func TestCount(t *testing.T) {
	cases := []struct {
		b    api.Bytes
		want int
	}{
		{api.Bytes{}, 0},
		{every(), 256},
		{set([2]int{0, 0}), 1},
		{set([2]int{255, 255}), 1},
		{set([2]int{0, 0}, [2]int{63, 64}, [2]int{127, 128}, [2]int{255, 255}), 6},
		{set([2]int{'a', 'z'}), 26},
		{set([2]int{1, 254}), 254},
		{api.Bytes{0x5555555555555555, 0, 0xaaaaaaaaaaaaaaaa, 7}, 67},
	}
	for _, c := range cases {
		if got := byteset.Count(c.b); got != c.want {
			t.Errorf("P1.1: Count(%x) = %d, not %d", c.b, got, c.want)
		}
	}
	for c := range 256 {
		if got := byteset.Count(set([2]int{0, c})); got != c+1 {
			t.Errorf("P1.1: Count of 0 to %d = %d", c, got)
		}
	}
}

func TestRangesOfChosenSets(t *testing.T) {
	cases := []struct {
		b    api.Bytes
		want [][2]int
	}{
		{api.Bytes{}, nil},
		{every(), [][2]int{{0, 255}}},
		{set([2]int{0, 0}), [][2]int{{0, 0}}},
		{set([2]int{255, 255}), [][2]int{{255, 255}}},
		{set([2]int{'x', 'x'}), [][2]int{{'x', 'x'}}},
		{set([2]int{0, 0}, [2]int{255, 255}), [][2]int{{0, 0}, {255, 255}}},
		{set([2]int{0, 9}, [2]int{100, 200}, [2]int{250, 255}), [][2]int{{0, 9}, {100, 200}, {250, 255}}},
		{set([2]int{10, 20}, [2]int{21, 30}), [][2]int{{10, 30}}},
		{set([2]int{10, 20}, [2]int{22, 30}), [][2]int{{10, 20}, {22, 30}}},
		{set([2]int{50, 60}, [2]int{10, 20}), [][2]int{{10, 20}, {50, 60}}},
		{set([2]int{63, 64}, [2]int{127, 128}, [2]int{191, 192}), [][2]int{{63, 64}, {127, 128}, {191, 192}}},
		{set([2]int{0, 63}, [2]int{64, 127}), [][2]int{{0, 127}}},
		{set([2]int{1, 254}), [][2]int{{1, 254}}},
	}
	for _, c := range cases {
		if got := byteset.Ranges(c.b); !slices.Equal(got, c.want) {
			t.Errorf("P1.2: Ranges(%x) = %v, not %v", c.b, got, c.want)
		}
	}
}

func TestRangesOfSingleBytes(t *testing.T) {
	for c := range 256 {
		if got := byteset.Ranges(set([2]int{c, c})); !slices.Equal(got, [][2]int{{c, c}}) {
			t.Errorf("P1.2: the runs of %d: %v", c, got)
		}
	}
}

func TestRangesOfEachSecondByte(t *testing.T) {
	for odd := range 2 {
		var b api.Bytes
		var want [][2]int
		for c := odd; c < 256; c += 2 {
			b[c/64] |= 1 << (c % 64)
			want = append(want, [2]int{c, c})
		}
		if got := byteset.Ranges(b); !slices.Equal(got, want) {
			t.Errorf("P1.2: Ranges(%x) = %v", b, got)
		}
	}
}

func TestRangesRiseAndDoNotTouch(t *testing.T) {
	for _, b := range samples() {
		runs := byteset.Ranges(b)
		last := -2
		for _, run := range runs {
			if run[0] <= last+1 || run[1] < run[0] {
				t.Errorf("P1.2: Ranges(%x) = %v", b, runs)
			}
			last = run[1]
		}
		if set(runs...) != b {
			t.Errorf("P1.2: Ranges(%x) = %v", b, runs)
		}
	}
}

func TestRangesShareNoMemory(t *testing.T) {
	b := set([2]int{1, 2}, [2]int{4, 5})
	want := [][2]int{{1, 2}, {4, 5}}
	first, second := byteset.Ranges(b), byteset.Ranges(b)
	first[0] = [2]int{9, 9}
	_ = append(first[:1], [2]int{8, 8})
	if !slices.Equal(second, want) || !slices.Equal(byteset.Ranges(b), want) {
		t.Errorf("R4: %v", second)
	}
}

func TestCallsFromSeveralGoroutines(t *testing.T) {
	b := set([2]int{'a', 'f'}, [2]int{200, 255})
	var all sync.WaitGroup
	for range 8 {
		all.Go(func() {
			for range 100 {
				digits, _ := byteset.Range('0', '9')
				if byteset.Count(byteset.Or(b, digits)) != 72 || len(byteset.Ranges(b)) != 2 {
					t.Error("R5: an answer hangs on other calls")
					return
				}
			}
		})
	}
	all.Wait()
}
