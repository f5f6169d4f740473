package usage

import (
	"math"
	"math/rand"
	"slices"
	"testing"
)

func TestAdd(t *testing.T) { // P23.2
	for _, x := range []struct{ a, b, want Sum }{
		{Sum{}, Sum{}, Sum{}},
		{Sum{1, 2, 3, 4, 5, 6}, Sum{}, Sum{1, 2, 3, 4, 5, 6}},
		{Sum{1, 2, 3, 4, 5, 6}, Sum{10, 20, 30, 40, 50, 60}, Sum{11, 22, 33, 44, 55, 60}},
		{Sum{1, 2, 3, 4, 5, 6}, Sum{7, 7, 7, 7, 7, 6}, Sum{8, 9, 10, 11, 12, 6}},
		{Sum{Deepest: -3}, Sum{Deepest: -2}, Sum{Deepest: -2}},
		{Sum{-1, -2, -3, -4, -5, math.MinInt}, Sum{1, 1, 1, 1, 1, math.MaxInt}, Sum{0, -1, -2, -3, -4, math.MaxInt}},
		// Digits that leave the type are lost.
		{Sum{math.MaxInt, math.MaxInt, math.MaxInt, math.MaxInt64, math.MaxInt, math.MaxInt}, Sum{1, 2, math.MaxInt, 4, 1, 1}, Sum{math.MinInt, math.MinInt + 1, -2, math.MinInt64 + 3, math.MinInt, math.MaxInt}},
		{Sum{math.MinInt, math.MinInt, math.MinInt, math.MinInt64, math.MinInt, math.MinInt}, Sum{-1, math.MinInt, -2, -1, -3, math.MinInt}, Sum{math.MaxInt, 0, math.MaxInt - 1, math.MaxInt64, math.MaxInt - 2, math.MinInt}},
	} {
		if got := Add(x.a, x.b); got != x.want {
			t.Errorf("%+v and %+v: %+v, not %+v", x.a, x.b, got, x.want)
		}
		if got := Add(x.b, x.a); got != x.want {
			t.Errorf("%+v and %+v: %+v, not %+v", x.b, x.a, got, x.want)
		}
	}
}

func TestMost(t *testing.T) { // P23.2
	a, b, c, d := Share{"a", Sum{Bytes: 5, Files: 9}}, Share{"b", Sum{Bytes: 7}}, Share{"c", Sum{Bytes: 5, Pages: 8}}, Share{"d", Sum{Names: 99, Deepest: 7}}
	l := []Share{d, a, b, c}
	for _, x := range []struct {
		n    int
		want []Share
	}{
		{math.MinInt, nil}, {-1, nil}, {0, nil}, {1, []Share{b}}, {2, []Share{b, a}}, {3, []Share{b, a, c}},
		{4, []Share{b, a, c, d}}, {5, []Share{b, a, c, d}}, {math.MaxInt, []Share{b, a, c, d}},
	} {
		if got := Most(l, x.n); !slices.Equal(got, x.want) {
			t.Errorf("the first %d: %v, not %v", x.n, got, x.want)
		}
		if got := Most(nil, x.n); len(got) > 0 {
			t.Errorf("the first %d of none: %v", x.n, got)
		}
	}
	if !slices.Equal(l, []Share{d, a, b, c}) {
		t.Error("what was handed in was changed:", l)
	}
	got := Most(l, 2)
	got = append(got[:1], d, d, d)
	got[0].Name = "x"
	if !slices.Equal(l, []Share{d, a, b, c}) {
		t.Error("what was handed in was kept:", l)
	}
}

func TestMostByChance(t *testing.T) { // P23.2: also of many that are alike, and of the greatest and the least numbers
	r := rand.New(rand.NewSource(1))
	sizes := []int64{0, 1, 2, -1, math.MaxInt64, math.MinInt64}
	for range 2000 {
		l := make([]Share, r.Intn(70))
		for k := range l {
			l[k] = Share{string(rune('a' + k)), Sum{Files: r.Intn(5), Pages: r.Intn(5), Bytes: sizes[r.Intn(1+r.Intn(6))]}}
		}
		was := slices.Clone(l)
		n := r.Intn(75) - 2
		if got := Most(l, n); !slices.Equal(got, mostTold(l, n)) {
			t.Fatalf("the first %d of %v: %v", n, l, got)
		}
		if !slices.Equal(l, was) {
			t.Fatal("what was handed in was changed")
		}
	}
}
