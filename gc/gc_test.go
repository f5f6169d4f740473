package gc

import (
	"math"
	"math/rand"
	"slices"
	"testing"

	"cuneiform/api"
)

const far = 1 << 40 // the greatest Wear of a right row

// Blocks of so much Wear.
func free(wear int) api.Block  { return api.Block{State: api.SFree, Wear: wear} }
func stale(wear int) api.Block { return api.Block{State: api.SStale, Wear: wear} }
func bad(wear int) api.Block   { return api.Block{State: api.SBad, Wear: wear} }
func full(live, wear int) api.Block {
	return api.Block{State: api.SFull, Live: live, Wear: wear}
}
func open(next, wear int) api.Block {
	return api.Block{State: api.SOpen, Live: next, Next: next, Wear: wear}
}

// row is a row of blocks.
func row(l ...api.Block) []api.Block { return l }

func TestRight(t *testing.T) { // P5.1
	for _, c := range []struct {
		l     []api.Block
		pages int
	}{
		{nil, 1},
		{row(), 32},
		{row(free(0)), 1},
		{row(free(far), stale(far), bad(far), full(32, far), open(32, far)), 32},
		{row(full(0, 0), full(4, 0), open(0, 0), open(4, 0)), 4},
		{row(open(1, 0), open(2, 0)), 2}, // more than one may be open in a row
		{row(api.Block{State: api.SFree, Next: 4}, api.Block{State: api.SFull, Next: 4}, api.Block{State: api.SStale, Next: 4}, api.Block{State: api.SBad, Next: 4}), 4},
		{row(api.Block{State: api.SOpen, Live: 4}, api.Block{State: api.SOpen, Next: 4}), 4},
		{slices.Repeat(row(stale(1)), 1000), 4},
	} {
		if !Right(c.l, c.pages) {
			t.Errorf("%v of %d pages is not right", c.l, c.pages)
		}
	}
}

// wrongBlocks are blocks that stand in no right row of 4 pages.
func wrongBlocks() []api.Block {
	return row(
		api.Block{State: -1}, api.Block{State: 5}, api.Block{State: math.MaxInt}, api.Block{State: math.MinInt},
		api.Block{State: api.SFree, Live: 1}, api.Block{State: api.SStale, Live: 1}, api.Block{State: api.SBad, Live: 1},
		api.Block{State: api.SFree, Live: -1}, api.Block{State: api.SStale, Live: -1}, api.Block{State: api.SBad, Live: -1},
		full(5, 0), full(-1, 0), full(math.MaxInt, 0),
		api.Block{State: api.SOpen, Live: 5}, api.Block{State: api.SOpen, Live: -1},
		api.Block{State: api.SOpen, Next: 5}, api.Block{State: api.SOpen, Next: -1},
		api.Block{State: api.SFree, Next: 5}, api.Block{State: api.SFull, Next: 5}, api.Block{State: api.SStale, Next: -1}, api.Block{State: api.SBad, Next: 5},
		free(-1), full(1, -1), bad(-1), free(far+1), stale(far+1), bad(far+1), free(math.MaxInt), free(math.MinInt),
	)
}

func TestWhatIsNotRight(t *testing.T) { // P5.1, P5.2, P5.3, P1
	refuses := func(l []api.Block, pages int) {
		t.Helper()
		if Right(l, pages) {
			t.Errorf("%v of %d pages is right", l, pages)
		}
		for _, room := range []bool{false, true} {
			if a := Next(l, pages, room); a != (Action{Nothing, -1}) {
				t.Errorf("Next of %v: %v", l, a)
			}
		}
		for k := -1; k <= len(l); k++ {
			if May(l, pages, k) {
				t.Errorf("May of %v, %d", l, k)
			}
			if got, e := Follow(l, pages, Action{Erase, k}); e != api.ErrArg || len(got) != 0 {
				t.Errorf("Follow of %v, %d: %v, %d", l, k, got, e)
			}
		}
	}
	for _, b := range wrongBlocks() {
		refuses(row(b), 4)
		refuses(row(stale(0), b), 4)
		refuses(row(b, stale(0), full(1, 0)), 4)
	}
	for _, pages := range []int{0, -1, 33, math.MaxInt, math.MinInt} {
		refuses(nil, pages)
		refuses(row(stale(0)), pages)
	}
	refuses(row(full(2, 0)), 1)
}

func TestLeastAndGreatest(t *testing.T) { // P5.1
	for _, c := range []struct {
		l               []api.Block
		least, greatest int
	}{
		{nil, 0, 0},
		{row(bad(5)), 0, 0},
		{row(bad(5), bad(1)), 0, 0},
		{row(free(7)), 7, 7},
		{row(bad(1), free(7), bad(9)), 7, 7},
		{row(free(3), open(1, 2), full(1, 8), stale(5), bad(0)), 2, 8},
		{row(full(1, 8), free(3), bad(9), stale(8), open(1, 3)), 3, 8},
		{row(free(far), stale(0)), 0, far},
		// Of any row, also of one that is not right.
		{row(api.Block{State: 9, Wear: -5}, api.Block{State: -1, Live: 99, Wear: 6}), -5, 6},
		{row(free(-3), free(-2)), -3, -2},
		{row(free(math.MinInt), free(math.MaxInt)), math.MinInt, math.MaxInt},
	} {
		if got := Least(c.l); got != c.least {
			t.Errorf("Least of %v: %d, not %d", c.l, got, c.least)
		}
		if got := Greatest(c.l); got != c.greatest {
			t.Errorf("Greatest of %v: %d, not %d", c.l, got, c.greatest)
		}
	}
}

func TestMay(t *testing.T) { // P5.1
	l := row(free(2), stale(5), stale(6), full(4, 5), full(4, 6), open(3, 5), open(3, 6), bad(2), free(5), bad(0))
	for k, want := range []bool{true, true, false, true, false, true, false, false, true, false} {
		if got := May(l, 4, k); got != want {
			t.Errorf("May of %v: %v", l[k], got)
		}
	}
	for _, k := range []int{-1, len(l), math.MaxInt, math.MinInt} {
		if May(l, 4, k) {
			t.Errorf("May of the block %d", k)
		}
	}
	if May(nil, 4, 0) || !May(row(stale(far)), 4, 0) || !May(row(stale(far), free(far-3)), 4, 0) || May(row(stale(far), free(far-4)), 4, 0) {
		t.Error("May at the edges")
	}
}

func TestCountAndLive(t *testing.T) { // P5.1
	l := row(free(1), open(2, 0), full(4, 0), full(3, 9), stale(0), stale(1), stale(2), bad(1))
	for state, want := range []int{1, 1, 2, 3, 1, 0} {
		if got := Count(l, state); got != want {
			t.Errorf("Count of %d: %d, not %d", state, got, want)
		}
	}
	if Count(l, -1) != 0 || Count(nil, 0) != 0 || Count(row(api.Block{State: 77}), 77) != 1 {
		t.Error("Count of other states")
	}
	if Live(l) != 9 || Live(nil) != 0 {
		t.Error("Live", Live(l))
	}
	if got := Live(row(full(math.MaxInt, 0), bad(0), full(2, 0))); got != math.MinInt+1 {
		t.Error("Live beyond the type:", got)
	}
	if got := Live(row(full(-7, 0), api.Block{State: api.SBad, Live: 3})); got != -4 {
		t.Error("Live of a row that is not right:", got)
	}
}

func TestNext(t *testing.T) { // P5.2, P5.6
	none := Action{Nothing, -1}
	for _, c := range []struct {
		what        string
		l           []api.Block
		with, wants Action // with room, and without
	}{
		{"nothing", nil, none, none},
		{"only bad ones", row(bad(0), bad(5)), none, none},
		{"the first example", row(stale(3), stale(2)), Action{Erase, 1}, Action{Erase, 1}},
		{"the second example", row(stale(4), free(0)), Action{Burn, 1}, Action{Burn, 1}},

		{"stale ones of one Wear", row(free(1), stale(2), stale(2)), Action{Erase, 1}, Action{Erase, 1}},
		{"a stale one at the edge", row(open(1, 0), stale(3)), Action{Erase, 1}, Action{Erase, 1}},
		{"a stale one beyond it", row(open(1, 0), stale(4)), Action{Force, 1}, Action{Force, 1}},
		{"a bad one is not the least", row(bad(0), open(1, 4), stale(7)), Action{Erase, 2}, Action{Erase, 2}},
		{"a stale one ahead of all else", row(full(0, 0), free(0), stale(3)), Action{Erase, 2}, Action{Erase, 2}},

		{"least Live", row(full(3, 0), full(1, 3), full(2, 0)), Action{Move, 1}, none},
		{"of these least Wear", row(full(4, 0), full(1, 3), full(1, 2), full(1, 2)), Action{Move, 2}, none},
		{"one that is needed whole", row(full(4, 0), full(3, 3)), Action{Move, 1}, none},
		{"one that may not be erased", row(full(3, 0), full(0, 4)), Action{Move, 0}, none},
		{"a full one ahead of a free one", row(free(0), full(3, 3)), Action{Move, 1}, Action{Burn, 0}},
		{"a full one in which nothing is needed", row(open(1, 0), full(0, 1)), Action{Move, 1}, none},

		{"free ones of the least Wear", row(free(2), free(1), free(1)), Action{Burn, 1}, Action{Burn, 1}},
		{"free ones above the least", row(open(1, 0), free(1)), none, none},
		{"an open one with nothing in it", row(free(3), open(0, 2), free(2)), Action{Burn, 1}, Action{Burn, 1}},
		{"a free one ahead of an open one", row(free(2), open(0, 2)), Action{Burn, 0}, Action{Burn, 0}},
		{"an open one above the least", row(open(0, 3), full(4, 2)), Action{Move, 1}, none},
		{"an open one with something in it", row(open(1, 2)), none, none},
		{"an open one in which nothing is needed any more", row(api.Block{State: api.SOpen, Next: 1}), none, none},
		{"a free one ahead of one to be moved", row(full(4, 0), free(0)), Action{Burn, 1}, Action{Burn, 1}},

		{"the least Wear moves", row(full(4, 1), full(4, 0), full(4, 0), free(2)), Action{Move, 1}, none},
		{"ahead of a stale one that may not be erased", row(stale(4), full(4, 0)), Action{Move, 1}, Action{Force, 0}},
		{"a bad one has no least Wear", row(bad(0), full(4, 1), stale(5)), Action{Move, 1}, Action{Force, 2}},

		{"stale ones by force", row(open(1, 0), stale(6), stale(5), stale(5)), Action{Force, 2}, Action{Force, 2}},
		{"a stale one ahead of a full one", row(open(1, 0), full(0, 4), stale(9)), Action{Force, 2}, Action{Force, 2}},
		{"full ones by force", row(open(1, 0), full(2, 4), full(1, 9), full(1, 8), full(1, 8)), Action{Force, 3}, none},
		{"one that is needed whole, by force", row(open(1, 0), full(4, 4)), none, none},
	} {
		if got := Next(c.l, 4, true); got != c.with {
			t.Errorf("%s, with room: %v, not %v", c.what, got, c.with)
		}
		if got := Next(c.l, 4, false); got != c.wants {
			t.Errorf("%s, without room: %v, not %v", c.what, got, c.wants)
		}
	}
}

// palette are blocks of 2 pages of all states, and of Wear about the spread.
func palette() []api.Block {
	var l []api.Block
	for _, wear := range []int{0, 3, 4, 9} {
		l = append(l, free(wear), stale(wear), bad(wear), full(0, wear), full(1, wear), full(2, wear))
		l = append(l, open(0, wear), open(1, wear), open(2, wear), api.Block{State: api.SOpen, Next: 1, Wear: wear})
	}
	return l
}

// rows hands over all rows of three blocks of the palette.
func rows(yield func([]api.Block) bool) {
	all := palette()
	for _, a := range all {
		for _, b := range all {
			for _, c := range all {
				if !yield(row(a, b, c)) {
					return
				}
			}
		}
	}
}

// told is the next action of a right row, as the document tells it: of each of its six lines the blocks are taken out, and put in order.
func told(l []api.Block, pages int, room bool) Action {
	low := math.MaxInt
	for _, b := range l {
		if b.State != 4 {
			low = min(low, b.Wear)
		}
	}
	for line, kind := range []int{1, 2, 3, 2, 4, 4} {
		var taken []int
		for k, b := range l {
			isStale, isFull, less := b.State == 3, b.State == 2, b.Live < pages
			is := false
			switch line {
			case 0:
				is = isStale && b.Wear < low+4
			case 1:
				is = room && isFull && less && b.Wear < low+4
			case 2:
				is = b.Wear == low && (b.State == 0 || b.State == 1 && b.Next == 0)
			case 3:
				is = room && isFull && b.Wear == low
			case 4:
				is = isStale
			case 5:
				is = room && isFull && less
			}
			if is {
				taken = append(taken, k)
			}
		}
		slices.SortStableFunc(taken, func(i, j int) int {
			x, y := l[i], l[j]
			switch {
			case line == 2:
				return 0
			case x.Live != y.Live:
				return x.Live - y.Live // (0 of those that are stale)
			}
			return x.Wear - y.Wear
		})
		if len(taken) > 0 {
			return Action{kind, taken[0]}
		}
	}
	return Action{0, -1}
}

func TestNextAsTold(t *testing.T) { // P5.2
	for l := range rows {
		kept := slices.Clone(l)
		for _, room := range []bool{false, true} {
			if got, want := Next(l, 2, room), told(l, 2, room); got != want {
				t.Fatalf("Next of %v, %v: %v, not %v", l, room, got, want)
			}
		}
		if !slices.Equal(l, kept) {
			t.Fatal("Next changed its row")
		}
	}
}

// anyRow is a right row of so many pages.
func anyRow(r *rand.Rand, pages int) []api.Block {
	var l []api.Block
	for range r.Intn(12) {
		b := api.Block{State: r.Intn(5), Next: r.Intn(pages + 1), Wear: r.Intn(8)}
		if b.State == api.SOpen || b.State == api.SFull {
			b.Live = r.Intn(pages + 1)
		}
		l = append(l, b)
	}
	return l
}

func TestNextOfAnyRow(t *testing.T) { // P5.2, P5.7
	r := rand.New(rand.NewSource(1))
	for range 50000 {
		pages := 1 + r.Intn(32)
		l, room := anyRow(r, pages), r.Intn(2) == 0
		got := Next(l, pages, room)
		if want := told(l, pages, room); got != want {
			t.Fatalf("Next of %v, %d, %v: %v, not %v", l, pages, room, got, want)
		}
		// In another order it is the same action, of a block that is as good.
		other := slices.Clone(l)
		r.Shuffle(len(other), func(i, j int) { other[i], other[j] = other[j], other[i] })
		again := Next(other, pages, room)
		if again.Kind != got.Kind {
			t.Fatalf("Next of %v and of %v: %v and %v", l, other, got, again)
		}
		if got.Kind == Nothing {
			continue
		}
		a, b := l[got.Block], other[again.Block]
		if a.Wear != b.Wear || got.Kind != Burn && (a.State != b.State || a.Live != b.Live) {
			t.Fatalf("Next of %v and of %v: %v and %v", l, other, a, b)
		}
	}
}

func TestWhatNextLeaves(t *testing.T) { // P5.5, P5.6
	for l := range rows {
		for _, room := range []bool{false, true} {
			a := Next(l, 2, room)
			if a.Kind != Nothing && a.Kind != Force {
				continue
			}
			for k, b := range l {
				isFull, least := b.State == api.SFull, b.Wear == Least(l)
				left := b.State == api.SStale || b.State == api.SFree && least || room && isFull && (b.Live < 2 || least)
				if a.Kind == Nothing && left {
					t.Fatalf("Nothing of %v, %v, with %v", l, room, b)
				}
				if a.Kind == Force && May(l, 2, k) && (b.State == api.SStale || room && isFull && b.Live < 2) {
					t.Fatalf("Force of %v, %v, with %v", l, room, b)
				}
			}
		}
	}
}

func TestFollow(t *testing.T) { // P5.3
	l := row(free(1), open(0, 2), open(3, 3), full(4, 4), full(0, 5), stale(6), bad(7), api.Block{State: api.SStale, Next: 4, Wear: far})
	kept := slices.Clone(l)
	for kind := Erase; kind <= Force; kind++ {
		for k := range l {
			got, e := Follow(l, 4, Action{kind, k})
			if l[k].State == api.SBad {
				if e != api.ErrArg || len(got) != 0 {
					t.Errorf("Follow of a bad block: %v, %d", got, e)
				}
				continue
			}
			want := slices.Clone(l)
			want[k] = free(l[k].Wear + 1)
			if e != api.OK || !slices.Equal(got, want) {
				t.Errorf("Follow of %d, %d: %v, %d, not %v", kind, k, got, e, want)
			}
			clear(got)
			if !slices.Equal(l, kept) {
				t.Fatal("what Follow answered is a part of what it was handed")
			}
		}
	}
	for _, a := range []Action{
		{Nothing, 0}, {Nothing, -1}, {-1, 0}, {5, 0}, {math.MaxInt, 0}, {math.MinInt, 0},
		{Erase, -1}, {Erase, 8}, {Force, math.MaxInt}, {Move, math.MinInt}, {Burn, 6}, {0, 6}, {9, 99},
	} {
		if got, e := Follow(l, 4, a); e != api.ErrArg || len(got) != 0 {
			t.Errorf("Follow of %v: %v, %d", a, got, e)
		}
	}
	if got, e := Follow(nil, 4, Action{Erase, 0}); e != api.ErrArg || len(got) != 0 {
		t.Errorf("Follow of nothing: %v, %d", got, e)
	}
}

// gap is how much the greatest Wear is above the least.
func gap(l []api.Block) int {
	return Greatest(l) - Least(l)
}

func TestGap(t *testing.T) { // P5.4
	for l := range rows {
		for _, room := range []bool{false, true} {
			a := Next(l, 2, room)
			if a.Kind == Nothing || a.Kind == Force {
				continue
			}
			behind, e := Follow(l, 2, a)
			if e != api.OK {
				t.Fatalf("Follow of %v, %v: %d", l, a, e)
			}
			if gap(behind) > max(gap(l), api.Spread) {
				t.Fatalf("%v: from %v to %v", a, l, behind)
			}
		}
	}
}

// use makes something else of a block that is erased, or of what is needed in one.
func use(r *rand.Rand, b *api.Block, pages int) {
	switch b.State {
	case api.SFree:
		*b = api.Block{State: api.SFull, Live: pages, Next: pages, Wear: b.Wear}
	case api.SFull:
		b.Live = r.Intn(b.Live + 1)
		if b.Live == 0 {
			b.State = api.SStale
		}
	}
}

func TestAllWearAlike(t *testing.T) { // P5.4, W1
	for seed := range int64(50) {
		r := rand.New(rand.NewSource(seed))
		l := slices.Repeat(row(free(0)), 10)
		done := 0
		for range 2000 {
			use(r, &l[r.Intn(len(l))], 4)
			a := Next(l, 4, true)
			if a.Kind == Nothing || a.Kind == Force {
				continue
			}
			l, _ = Follow(l, 4, a)
			done++
			if gap(l) > api.Spread {
				t.Fatalf("seed %d: %v", seed, l)
			}
		}
		if done < 1000 || Least(l) < 50 {
			t.Fatalf("seed %d: %d actions, and %v", seed, done, l)
		}
	}
}
