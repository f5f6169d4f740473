package room

import (
	"math"
	"math/rand"
	"slices"
	"testing"

	"cuneiform/api"
)

var sizes = []int{64, 128, 256, 512}

// noSizes are numbers of bytes that no page has.
var noSizes = []int{math.MinInt, -64, -1, 0, 1, 16, 24, 32, 63, 65, 96, 127, 129, 192, 255, 257, 511, 513, 544, 1024, 1 << 32, 1<<32 + 64, math.MaxInt}

// most is how many pages a file may have.
func most(size int) int {
	k := size / 2
	return 6 + k + k*k
}

// upTo are the numbers from one up to, and without, another one.
func upTo(from, to int) []int {
	var l []int
	for n := from; n < to; n++ {
		l = append(l, n)
	}
	return l
}

// takes is how many pages a file takes, reckoned from what each of its pages needs alone.
func takes(size int, l []int) int {
	k := size / 2
	single, double, below := 0, 0, make([]int, k)
	for _, n := range l {
		switch {
		case n < 6:
		case n < 6+k:
			single = 1
		default:
			double = 1
			below[(n-6-k)/k] = 1
		}
	}
	sum := len(l) + single + double
	for _, x := range below {
		sum += x
	}
	return sum
}

// same fails the test, if a call changed the row that it was handed.
func same(t *testing.T, got, want []int) {
	t.Helper()
	if !slices.Equal(got, want) {
		t.Fatalf("what was handed in was changed to %v", got)
	}
}

// fresh fails the test, if an answer shares memory with what was handed in. It spoils the answer.
func fresh(t *testing.T, answer, handed []int) {
	t.Helper()
	kept := slices.Clone(handed)
	answer = answer[:cap(answer)]
	for i := range answer {
		answer[i] = -77
	}
	same(t, handed, kept)
}

func TestPlan(t *testing.T) { // P10.1, P10.6
	for _, c := range []struct {
		size, capacity int
		want           Layout
	}{
		{64, 102, Layout{2, 3, 36, 4}},
		{64, 82, Layout{2, 3, 16, 4}},
		{64, 111, Layout{2, 3, 45, 4}},
		{64, 112, Layout{3, 4, 45, 6}},
		{128, 112, Layout{3, 4, 45, 15}},
		{256, 127, Layout{3, 4, 60, 30}},
		{512, 128, Layout{4, 5, 60, 84}},
		{64, 8192, Layout{508, 509, 7620, 1016}},
		{512, 8192, Layout{508, 509, 7620, 10668}},
	} {
		if got, e := Plan(c.size, c.capacity); e != api.OK || got != c.want {
			t.Errorf("Plan(%d, %d): %v, %d", c.size, c.capacity, got, e)
		}
	}
	for i, size := range sizes {
		perPage := []int{2, 5, 10, 21}[i]
		var before Layout
		for capacity := range 8193 {
			got, e := Plan(size, capacity)
			if capacity < 82 {
				if e != api.ErrFull || got != (Layout{}) {
					t.Fatalf("Plan(%d, %d): %v, %d", size, capacity, got, e)
				}
				continue
			}
			table := max(2, (capacity-64)/16)
			if want := (Layout{table, table + 1, capacity - 64 - table, table * perPage}); e != api.OK || got != want {
				t.Fatalf("Plan(%d, %d): %v, %d, not %v", size, capacity, got, e, want)
			}
			if got.Table < before.Table || got.First < before.First || got.Pages < before.Pages || got.Inodes < before.Inodes {
				t.Fatalf("Plan(%d, %d): %v is less than %v", size, capacity, got, before)
			}
			if got.Table+got.Pages != capacity-64 || got.Inodes > 1<<16-1 {
				t.Fatalf("Plan(%d, %d): %v", size, capacity, got)
			}
			before = got
		}
	}
}

func TestPlanOfWhatMayNotBe(t *testing.T) { // P10.1, P1
	refused := func(size, capacity int) {
		t.Helper()
		if got, e := Plan(size, capacity); e != api.ErrArg || got != (Layout{}) {
			t.Errorf("Plan(%d, %d): %v, %d", size, capacity, got, e)
		}
	}
	for _, size := range noSizes {
		for _, capacity := range []int{102, 0, 81, -1, 8192, 8193} {
			refused(size, capacity)
		}
	}
	for _, size := range sizes {
		for _, capacity := range []int{-1, -64, 8193, 1 << 14, math.MaxInt, math.MinInt} {
			refused(size, capacity)
		}
	}
}

func TestFile(t *testing.T) { // P10.2
	for _, c := range []struct {
		l    []int
		want int
	}{
		{nil, 0}, {[]int{}, 0}, {[]int{0}, 1}, {[]int{5}, 1}, {[]int{0, 5}, 2}, {upTo(0, 6), 6},
		{[]int{6}, 2}, {[]int{37}, 2}, {[]int{5, 6}, 3}, {[]int{6, 37}, 3}, {upTo(0, 38), 39},
		{[]int{38}, 3}, {[]int{38, 69}, 4}, {[]int{38, 70}, 5}, {[]int{69, 70}, 5}, {[]int{37, 38}, 5}, {[]int{0, 38, 70}, 6},
		{[]int{1061}, 3}, {upTo(0, 1062), 1062 + 1 + 1 + 32}, {[]int{38, 70, 102, 1061}, 9},
	} {
		kept := slices.Clone(c.l)
		if got, e := File(64, c.l); e != api.OK || got != c.want {
			t.Errorf("File of %v: %d, %d, not %d", c.l, got, e, c.want)
		}
		same(t, c.l, kept)
	}
	for _, size := range sizes {
		k := size / 2
		all := most(size)
		edges := []int{0, 5, 6, 5 + k, 6 + k, 5 + 2*k, 6 + 2*k, 5 + 3*k, all - k - 1, all - k, all - 1}
		for set := range 1 << len(edges) {
			var l []int
			for i, n := range edges {
				if set>>i&1 == 1 {
					l = append(l, n)
				}
			}
			if got, e := File(size, l); e != api.OK || got != takes(size, l) {
				t.Fatalf("File(%d, %v): %d, %d, not %d", size, l, got, e, takes(size, l))
			}
		}
		if got, e := File(size, upTo(0, all)); e != api.OK || got != all+2+k {
			t.Errorf("all pages of the size %d: %d, %d", size, got, e)
		}
	}
}

func TestFileOfWhatMayNotBe(t *testing.T) { // P10.2, P10.3, P1
	refused := func(size int, l []int, want api.Errno) {
		t.Helper()
		kept := slices.Clone(l)
		if got, e := File(size, l); e != want || got != 0 {
			t.Errorf("File(%d, %v): %d, %d, not %d", size, l, got, e, want)
		}
		if got, e := More(size, l, 0, 3); e != want || got != 0 {
			t.Errorf("More(%d, %v, 0, 3): %d, %d, not %d", size, l, got, e, want)
		}
		same(t, l, kept)
	}
	for _, size := range noSizes {
		for _, l := range [][]int{nil, {0}, {1, 1}, {-1}, {math.MaxInt}} {
			refused(size, l, api.ErrArg)
		}
	}
	for _, size := range sizes {
		all := most(size)
		for _, l := range [][]int{{0, 0}, {1, 0}, {0, 1, 1}, {0, 2, 1}, {5, 6, 7, 7}, {math.MaxInt, math.MinInt}, {-1, -1}, {-1, 1, 0}, {all, all}, {all, 0}, {0, all, 3}, {math.MaxInt, 0}} {
			refused(size, l, api.ErrArg)
		}
		for _, l := range [][]int{{-1}, {-1, 0}, {-2, -1}, {math.MinInt}, {math.MinInt, math.MaxInt}, {all}, {0, all}, {all - 1, all}, {all + 1}, {math.MaxInt}, {-1, all}} {
			refused(size, l, api.ErrIndex)
		}
	}
}

func TestDir(t *testing.T) { // P10.2, P10.5
	for _, c := range []struct{ slots, want int }{
		{0, 0}, {1, 1}, {4, 1}, {5, 2}, {8, 2}, {24, 6}, {25, 8}, {152, 39}, {153, 42}, {280, 73}, {281, 75}, {4248, 1096},
	} {
		if got, e := Dir(64, c.slots); e != api.OK || got != c.want {
			t.Errorf("Dir of %d slots: %d, %d, not %d", c.slots, got, e, c.want)
		}
	}
	for _, size := range sizes {
		inPage := size / 16
		before, l := 0, []int(nil)
		for slots := range 6000 {
			if slots > len(l)*inPage {
				l = append(l, len(l))
			}
			if len(l) > most(size) {
				break
			}
			got, e := Dir(size, slots)
			if e != api.OK || got != takes(size, l) {
				t.Fatalf("Dir(%d, %d): %d, %d, not %d", size, slots, got, e, takes(size, l))
			}
			if got < before {
				t.Fatalf("Dir(%d, %d): %d, and %d of a slot less", size, slots, got, before)
			}
			before = got
		}
		all := most(size)
		for _, slots := range []int{all * inPage, all*inPage - 1, all*inPage - inPage + 1} {
			if got, e := Dir(size, slots); e != api.OK || got != all+2+size/2 {
				t.Errorf("Dir(%d, %d): %d, %d", size, slots, got, e)
			}
		}
		if got, e := Dir(size, (all-1)*inPage); e != api.OK || got != all+1+size/2 {
			t.Errorf("Dir of a page less than all of %d: %d, %d", size, got, e)
		}
		for _, slots := range []int{all*inPage + 1, 1 << 30, 1 << 31, 1 << 60, math.MaxInt - 1, math.MaxInt} {
			if got, e := Dir(size, slots); e != api.ErrIndex || got != 0 {
				t.Errorf("Dir(%d, %d): %d, %d", size, slots, got, e)
			}
		}
		for _, slots := range []int{-1, -16, math.MinInt} {
			if got, e := Dir(size, slots); e != api.ErrArg || got != 0 {
				t.Errorf("Dir(%d, %d): %d, %d", size, slots, got, e)
			}
		}
	}
	for _, size := range noSizes {
		for _, slots := range []int{0, 1, -1, math.MaxInt} {
			if got, e := Dir(size, slots); e != api.ErrArg || got != 0 {
				t.Errorf("Dir(%d, %d): %d, %d", size, slots, got, e)
			}
		}
	}
}

func TestWith(t *testing.T) { // P10.3
	for _, c := range []struct {
		l        []int
		from, to int
		want     []int
	}{
		{nil, 0, 0, nil},
		{nil, 0, 3, []int{0, 1, 2}},
		{nil, 2, 3, []int{2}},
		{[]int{0, 5}, 1, 3, []int{0, 1, 2, 5}},
		{[]int{0, 5}, 0, 1, []int{0, 5}},
		{[]int{0, 5}, 4, 7, []int{0, 4, 5, 6}},
		{[]int{3, 4}, 0, 8, upTo(0, 8)},
		{[]int{1, 2}, 2, 2, []int{1, 2}},
		{[]int{1, 2}, 5, 2, []int{1, 2}},
		// A row that does not rise does behind it, whatever is in it.
		{[]int{5, 1, 5, 1}, 0, 0, []int{1, 5}},
		{[]int{9, 2, 2, -4}, 1, 4, []int{-4, 1, 2, 3, 9}},
		{[]int{math.MaxInt, math.MinInt}, 0, 1, []int{math.MinInt, 0, math.MaxInt}},
		// From and to are from 0 to 2^17.
		{[]int{7, 3}, -1, 4, []int{3, 7}},
		{[]int{7, 3}, math.MinInt, 4, []int{3, 7}},
		{[]int{7, 3}, -5, -1, []int{3, 7}},
		{[]int{7, 3}, 0, 1<<17 + 1, []int{3, 7}},
		{[]int{7, 3}, 1 << 17, 1<<17 + 1, []int{3, 7}},
		{[]int{7, 3}, 0, math.MaxInt, []int{3, 7}},
		{[]int{7, 3}, math.MaxInt - 1, math.MaxInt, []int{3, 7}},
		{[]int{7, 3}, math.MinInt, math.MaxInt, []int{3, 7}},
		{[]int{7, 3}, 1 << 17, 1 << 17, []int{3, 7}},
		{[]int{7, 3}, 1<<17 - 1, 1 << 17, []int{3, 7, 1<<17 - 1}},
		{[]int{1 << 17, -1}, 0, 1 << 17, append([]int{-1}, upTo(0, 1<<17+1)...)},
	} {
		kept := slices.Clone(c.l)
		got := With(c.l, c.from, c.to)
		if !slices.Equal(got, c.want) {
			t.Errorf("With(%v, %d, %d): %d numbers, not %d", c.l, c.from, c.to, len(got), len(c.want))
		}
		same(t, c.l, kept)
		fresh(t, got, c.l)
	}
	// What stands behind the row in its memory is the caller's.
	all := []int{4, 2, 9, 9, 9}
	if got := With(all[:2], 0, 3); !slices.Equal(got, []int{0, 1, 2, 4}) {
		t.Errorf("With of a part of more: %v", got)
	}
	same(t, all, []int{4, 2, 9, 9, 9})
}

func TestCut(t *testing.T) { // P10.3
	for _, c := range []struct {
		l    []int
		n    int
		want []int
	}{
		{nil, 5, nil},
		{[]int{0, 3, 5}, 0, nil},
		{[]int{0, 3, 5}, 1, []int{0}},
		{[]int{0, 3, 5}, 3, []int{0}},
		{[]int{0, 3, 5}, 5, []int{0, 3}},
		{[]int{0, 3, 5}, 6, []int{0, 3, 5}},
		{[]int{0, 3, 5}, math.MaxInt, []int{0, 3, 5}},
		{[]int{0, 3, 5}, -1, nil},
		{[]int{-3, 0, 5}, -1, []int{-3}},
		{[]int{math.MinInt, math.MaxInt}, math.MinInt, nil},
		{[]int{math.MinInt, math.MaxInt}, math.MaxInt, []int{math.MinInt}},
		// In order: as they stand, as often as they stand.
		{[]int{5, 1, 9, 1, 4}, 5, []int{1, 1, 4}},
		{[]int{5, 4, 3}, 5, []int{4, 3}},
	} {
		kept := slices.Clone(c.l)
		got := Cut(c.l, c.n)
		if !slices.Equal(got, c.want) {
			t.Errorf("Cut(%v, %d): %v, not %v", c.l, c.n, got, c.want)
		}
		same(t, c.l, kept)
		fresh(t, got, c.l)
	}
}

func TestMore(t *testing.T) { // P10.3
	for _, c := range []struct {
		l        []int
		from, to int
		want     int
	}{
		{nil, 0, 0, 0}, {nil, 0, 1, 1}, {nil, 6, 7, 2}, {nil, 38, 39, 3}, {[]int{5}, 0, 6, 5}, {[]int{5}, 5, 6, 0},
		{[]int{6}, 7, 9, 2}, {[]int{38}, 69, 71, 3}, {[]int{38}, 6, 7, 2}, {nil, 0, 1062, 1096}, {upTo(0, 1062), 0, 1062, 0},
		{[]int{0}, 3, 2, 0}, {[]int{0}, -1, 9, 0}, {[]int{0}, 0, 1<<17 + 1, 0}, {[]int{0}, 1061, 1062, 3},
	} {
		kept := slices.Clone(c.l)
		if got, e := More(64, c.l, c.from, c.to); e != api.OK || got != c.want {
			t.Errorf("More(%v, %d, %d): %d, %d, not %d", c.l, c.from, c.to, got, e, c.want)
		}
		same(t, c.l, kept)
	}
	for _, size := range sizes {
		all := most(size)
		for _, l := range [][]int{nil, {0}, {all - 1}} {
			for _, c := range [][2]int{{all, all + 1}, {0, all + 1}, {all + 5, 1 << 17}, {0, 1 << 17}} {
				if got, e := More(size, l, c[0], c[1]); e != api.ErrIndex || got != 0 {
					t.Errorf("More(%d, %v, %d, %d): %d, %d", size, l, c[0], c[1], got, e)
				}
			}
		}
		// A row that does not rise comes first, though it does with more.
		for _, l := range [][]int{{1, 1}, {1, 0}, {all, 0}} {
			for _, c := range [][2]int{{0, 0}, {0, 3}, {all, all + 1}} {
				if got, e := More(size, l, c[0], c[1]); e != api.ErrArg || got != 0 {
					t.Errorf("More(%d, %v, %d, %d): %d, %d", size, l, c[0], c[1], got, e)
				}
			}
		}
	}
	for _, size := range noSizes {
		if got, e := More(size, nil, 0, 1); e != api.ErrArg || got != 0 {
			t.Errorf("More(%d, ..): %d, %d", size, got, e)
		}
	}
}

// some is a rising row of pages of a file, at random, often of those near one another.
func some(r *rand.Rand, size int) []int {
	var l []int
	for range r.Intn(6) {
		from := r.Intn(most(size))
		if r.Intn(2) == 0 {
			from = r.Intn(4 * size)
		}
		l = append(l, upTo(from, min(from+1+r.Intn(5), most(size)))...)
	}
	slices.Sort(l)
	return slices.Compact(l)
}

func TestAnyFile(t *testing.T) { // P10.2, P10.3, P10.4
	r := rand.New(rand.NewSource(1))
	one := map[int]int{} // how many more pages one page more made, how often
	for range 4000 {
		size := sizes[r.Intn(4)]
		l := some(r, size)
		was, e := File(size, l)
		if e != api.OK || was != takes(size, l) {
			t.Fatalf("File(%d, %v): %d, %d, not %d", size, l, was, e, takes(size, l))
		}
		from := r.Intn(most(size))
		to := min(from+r.Intn(40), most(size))
		with := With(l, from, to)
		want := map[int]int{}
		for _, n := range append(upTo(from, to), l...) {
			want[n] = 1
		}
		if !slices.IsSorted(with) || len(with) != len(want) {
			t.Fatalf("With(%v, %d, %d): %v", l, from, to, with)
		}
		for _, n := range with {
			if want[n] != 1 {
				t.Fatalf("With(%v, %d, %d): %v", l, from, to, with)
			}
		}
		is, e := File(size, with)
		more, me := More(size, l, from, to)
		if e != api.OK || me != api.OK || more != is-was || more < 0 || more != takes(size, with)-takes(size, l) {
			t.Fatalf("More(%d, %v, %d, %d): %d, %d", size, l, from, to, more, me)
		}
		step, e := More(size, l, from, from+1)
		if e != api.OK || step < 0 || step > 4 {
			t.Fatalf("one page more, %d, of the size %d: %d, %d", from, size, step, e)
		}
		one[step]++
		n := r.Intn(most(size))
		cut := Cut(with, n)
		if len(cut) > 0 && cut[len(cut)-1] >= n || !slices.Equal(cut, with[:len(cut)]) || len(cut) < len(with) && with[len(cut)] < n {
			t.Fatalf("Cut(%v, %d): %v", with, n, cut)
		}
		if less, e := File(size, cut); e != api.OK || less > is {
			t.Fatalf("a file that was cut takes %d, %d, not %d at most", less, e, is)
		}
	}
	for step := range 4 {
		if one[step] == 0 {
			t.Errorf("no page made %d more", step)
		}
	}
}
