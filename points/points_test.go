package points_test

import (
	"slices"
	"testing"

	"temple/api"
	"temple/points"
)

func TestOne(t *testing.T) {
	for p := range api.MaxInput + 1 {
		if got := slices.Collect(points.One(p).All()); !slices.Equal(got, []int{p}) {
			t.Errorf("%d: %v", p, got)
		}
		for q := range api.MaxInput + 1 {
			if got := points.One(p).Has(q); got != (p == q) {
				t.Errorf("%d, %d: %v", p, q, got)
			}
		}
	}
}

func TestUpTo(t *testing.T) {
	for p := range api.MaxInput + 1 {
		var want []int
		for q := range p + 1 {
			want = append(want, q)
		}
		if got := slices.Collect(points.UpTo(p).All()); !slices.Equal(got, want) {
			t.Errorf("%d: %v", p, got)
		}
	}
}

// TestAll: points are told from the least on, up to where nobody asks any more.
func TestAll(t *testing.T) {
	s := points.One(32) | points.One(0) | points.One(7) | points.One(31)
	var told []int
	for p := range s.All() {
		told = append(told, p)
		if p == 31 {
			break
		}
	}
	if !slices.Equal(told, []int{0, 7, 31}) {
		t.Errorf("%v", told)
	}
	for p := range points.Set(0).All() {
		t.Errorf("%d", p)
	}
}
