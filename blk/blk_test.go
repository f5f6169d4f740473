package blk

import (
	"bytes"
	"math"
	"slices"
	"testing"

	"cuneiform/api"
	"cuneiform/gc"
	"cuneiform/nand"
)

const width = 64 + 32

var small = api.Geo{Blocks: 8, Pages: 4, Size: 64}

// page is a page's bytes, all x.
func page(x byte) []byte { return bytes.Repeat([]byte{x}, width) }

// newChip is a chip of the small geometry.
func newChip(t *testing.T, bad ...int) *nand.Chip {
	t.Helper()
	c, e := nand.New(small, bad)
	if e != api.OK {
		t.Fatal("the chip:", e)
	}
	return c
}

// wornChip is a chip whose blocks were erased so often; those of bad are bad.
func wornChip(t *testing.T, wear []int, bad ...int) *nand.Chip {
	t.Helper()
	marks := make([]bool, 8)
	for _, k := range bad {
		marks[k] = true
	}
	c, e := nand.Load(small, make([][]byte, 32), marks, wear)
	if e != api.OK {
		t.Fatal("the chip:", e)
	}
	return c
}

// manage is a manager of a chip, some of whose blocks are fresh.
func manage(t *testing.T, c *nand.Chip, fresh ...int) *Blocks {
	t.Helper()
	marks := make([]bool, 8)
	for _, k := range fresh {
		marks[k] = true
	}
	m, e := Open(c, marks, make([]int, 8), 1, 0)
	if e != api.OK || m == nil {
		t.Fatal("Open:", e)
	}
	return m
}

// allFresh is a new chip, and a manager of it.
func allFresh(t *testing.T) (*nand.Chip, *Blocks) {
	t.Helper()
	c := newChip(t)
	return c, manage(t, c, 0, 1, 2, 3, 4, 5, 6, 7)
}

// blocks are what All hands over, and fails the test, if the numbers are others.
func blocks(t *testing.T, m *Blocks) []api.Block {
	t.Helper()
	var l []api.Block
	for k, b := range m.All() {
		if k != len(l) {
			t.Errorf("All: %d, not %d", k, len(l))
		}
		l = append(l, b)
	}
	return l
}

// stands fails the test, if a block stands otherwise.
func stands(t *testing.T, m *Blocks, k int, want api.Block) {
	t.Helper()
	if got := blocks(t, m)[k]; got != want {
		t.Errorf("the block %d: %v, not %v", k, got, want)
	}
}

// is fails the test, if an answer is another one than asked for.
func is(t *testing.T, what string, got, want api.Errno) {
	t.Helper()
	if got != want {
		t.Errorf("%s: %d, not %d", what, got, want)
	}
}

// programs fails the test, if Program answers otherwise.
func programs(t *testing.T, m *Blocks, x byte, k, n int, want api.Errno) {
	t.Helper()
	if gk, gn, e := m.Program(page(x)); gk != k || gn != n || e != want {
		t.Errorf("Program: %d, %d, %d, not %d, %d, %d", gk, gn, e, k, n, want)
	}
}

// script sets a chip's faults.
func script(t *testing.T, c *nand.Chip, l ...api.Fault) {
	t.Helper()
	is(t, "Script", c.Script(l), api.OK)
}

func TestOpen(t *testing.T) { // P6.1
	c := wornChip(t, []int{3, 1, 4, 1, 5, 4, 2, 6}, 2, 5)
	fresh := []bool{true, false, true, false, false, false, true, false}
	live := []int{0, 4, 0, 0, 1, 3, 0, 2}
	m, e := Open(c, fresh, live, 2, 1)
	if e != api.OK {
		t.Fatal("Open:", e)
	}
	clear(fresh)
	clear(live)
	want := []api.Block{
		{State: api.SFree, Wear: 3},
		{State: api.SFull, Live: 4, Wear: 1},
		{State: api.SBad, Wear: 4},
		{State: api.SStale, Wear: 1},
		{State: api.SFull, Live: 1, Wear: 5},
		{State: api.SBad, Wear: 4}, // its live is left out
		{State: api.SFree, Wear: 2},
		{State: api.SFull, Live: 2, Wear: 6},
	}
	if got := blocks(t, m); !slices.Equal(got, want) {
		t.Errorf("All: %v, not %v", got, want)
	}
	if m.Free() != 2 || m.Room() != 8 || m.Left() != 1 {
		t.Error("Free, Room, Left:", m.Free(), m.Room(), m.Left())
	}
	if c.Strokes() != 0 || c.Reads() != 0 {
		t.Error("Open used the chip")
	}
}

func TestOpenOfWhatMayNotBe(t *testing.T) { // P6.1, P1
	fresh, live := make([]bool, 8), make([]int, 8)
	up, down := newChip(t, 3), newChip(t)
	down.Lose()
	with := func(k, n int) []int {
		l := make([]int, 8)
		l[k] = n
		return l
	}
	oneFresh := make([]bool, 8)
	oneFresh[2] = true
	badFresh := make([]bool, 8)
	badFresh[3] = true
	for _, c := range []struct {
		what         string
		chip         *nand.Chip
		fresh        []bool
		live         []int
		reserve, bad int
		want         api.Errno
	}{
		{"no chip", nil, fresh, live, 1, 0, api.ErrNil},
		{"no chip, and more", nil, nil, nil, -1, -1, api.ErrNil},
		{"a chip that is down", down, fresh, live, 1, 0, api.ErrDown},
		{"a chip that is down, and more", down, nil, nil, -1, -1, api.ErrDown},
		{"a chip that is none", &nand.Chip{}, nil, nil, 1, 0, api.ErrDown},
		{"less fresh", up, fresh[:7], live, 1, 0, api.ErrArg},
		{"more fresh", up, make([]bool, 9), live, 1, 0, api.ErrArg},
		{"no fresh", up, nil, live, 1, 0, api.ErrArg},
		{"less live", up, fresh, live[:7], 1, 0, api.ErrArg},
		{"more live", up, fresh, make([]int, 9), 1, 0, api.ErrArg},
		{"no live", up, fresh, nil, 1, 0, api.ErrArg},
		{"a live below 0", up, fresh, with(7, -1), 1, 0, api.ErrArg},
		{"a live above all pages", up, fresh, with(0, 5), 1, 0, api.ErrArg},
		{"a live far off", up, fresh, with(0, math.MinInt), 1, 0, api.ErrArg},
		{"a live of a bad block above all pages", up, fresh, with(3, 5), 1, 0, api.ErrArg},
		{"a live of a fresh block", up, oneFresh, with(2, 1), 1, 0, api.ErrArg},
		{"a live of a fresh block that is bad", up, badFresh, with(3, 1), 1, 0, api.ErrArg},
		{"a reserve below 0", up, fresh, live, -1, 0, api.ErrArg},
		{"bad below 0", up, fresh, live, 1, -1, api.ErrArg},
		{"live at the edge", up, oneFresh, with(1, 4), 0, 0, api.OK},
		{"a bad block that is fresh, and much of all", up, badFresh, with(4, 4), math.MaxInt, math.MaxInt, api.OK},
	} {
		m, e := Open(c.chip, c.fresh, c.live, c.reserve, c.bad)
		if e != c.want || (m != nil) != (e == api.OK) {
			t.Errorf("%s: %v, %d, not %d", c.what, m, e, c.want)
		}
	}
}

func TestTheExample(t *testing.T) { // P6.2, P6.4
	c, m := allFresh(t)
	if m.Free() != 8 || m.Room() != 32 || m.Next() != (gc.Action{Kind: gc.Burn, Block: 0}) {
		t.Error("at first:", m.Free(), m.Room(), m.Next())
	}
	programs(t, m, 9, 0, 0, api.OK)
	if m.Free() != 7 || m.Room() != 31 {
		t.Error("then:", m.Free(), m.Room())
	}
	stands(t, m, 0, api.Block{State: api.SOpen, Live: 1, Next: 1})
	if b, e := c.Read(0, 0); e != api.OK || !bytes.Equal(b, page(9)) {
		t.Error("what was programmed:", b, e)
	}
}

func TestProgramToTheEnd(t *testing.T) { // P6.2, P6.4, P6.5, P6.6
	c, m := allFresh(t)
	for i := range 32 {
		if m.Room() != 32-i {
			t.Fatalf("Room: %d, not %d", m.Room(), 32-i)
		}
		programs(t, m, byte(i), i/4, i%4, api.OK)
		want := api.Block{State: api.SOpen, Live: i%4 + 1, Next: i%4 + 1}
		if i%4 == 3 {
			want.State = api.SFull
		}
		stands(t, m, i/4, want)
		if gc.Count(blocks(t, m), api.SOpen) > 1 || gc.Live(blocks(t, m)) != i+1 || m.Free() != 7-i/4 {
			t.Fatalf("behind %d: %v", i, blocks(t, m))
		}
	}
	kept, strokes := blocks(t, m), c.Strokes()
	programs(t, m, 1, 0, 0, api.ErrFull)
	if !slices.Equal(blocks(t, m), kept) || c.Strokes() != strokes {
		t.Error("ErrFull changed something")
	}
	for i := range 32 {
		if b, e := c.Read(i/4, i%4); e != api.OK || !bytes.Equal(b, page(byte(i))) {
			t.Errorf("the page %d: %v, %d", i, b, e)
		}
	}
}

func TestTheLeastWornIsOpened(t *testing.T) { // P6.2
	c := wornChip(t, []int{2, 1, 0, 1, 1, 9, 0, 0}, 6)
	m := manage(t, c, 0, 1, 3, 4, 5, 6)
	for i, k := range []int{1, 3, 4, 0, 5} { // not 2 and 7, which are stale, nor 6, which is bad
		for n := range 4 {
			programs(t, m, byte(i), k, n, api.OK)
		}
	}
	programs(t, m, 0, 0, 0, api.ErrFull)
	// By the chip's Wear, also where the gap is left out of what comes next.
	is(t, "Erase", m.Erase(2), api.OK)
	is(t, "Erase", m.Erase(7), api.OK)
	is(t, "Erase", m.Erase(2), api.OK)
	programs(t, m, 0, 7, 0, api.OK)
}

func TestProgramOfWhatMayNotBe(t *testing.T) { // P6.2, P1
	c, m := allFresh(t)
	refuses := func(b []byte, want api.Errno) {
		t.Helper()
		if k, n, e := m.Program(b); k != 0 || n != 0 || e != want {
			t.Errorf("Program of %d bytes: %d, %d, %d, not %d", len(b), k, n, e, want)
		}
	}
	for _, n := range []int{0, 1, 64, 95, 97, 544} {
		refuses(make([]byte, n), api.ErrArg)
	}
	refuses(nil, api.ErrArg)
	c.Lose()
	refuses(nil, api.ErrDown)
	refuses(page(1), api.ErrDown)
	if c.Strokes() != 0 || m.Free() != 8 {
		t.Error("what was refused did something")
	}
	c.Start()
	programs(t, m, 1, 0, 0, api.OK)
	// That nothing is free is seen behind that the bytes are too few.
	none := manage(t, newChip(t))
	if _, _, e := none.Program(page(1)[1:]); e != api.ErrArg {
		t.Error("Program without a free block:", e)
	}
}

func TestProgramThatFails(t *testing.T) { // P6.2
	c, m := allFresh(t)
	script(t, c, api.Fault{At: 0, Kind: api.Failed}, api.Fault{At: 2, Kind: api.Failed})
	programs(t, m, 1, 0, 0, api.ErrFail)
	stands(t, m, 0, api.Block{State: api.SStale})
	programs(t, m, 2, 1, 0, api.OK)
	programs(t, m, 3, 1, 1, api.ErrFail)
	stands(t, m, 1, api.Block{State: api.SFull, Live: 1, Next: 1})
	if m.Room() != 24 || m.Left() != 1 {
		t.Error("Room, Left:", m.Room(), m.Left())
	}
	programs(t, m, 4, 2, 0, api.OK)
	if b, _ := c.Read(1, 0); !bytes.Equal(b, page(2)) {
		t.Error("what was programmed ahead of it:", b)
	}
}

func TestProgramWithoutPower(t *testing.T) { // P6.2
	c, m := allFresh(t)
	script(t, c, api.Fault{At: 0, Kind: api.Ahead}, api.Fault{At: 1, Kind: api.Within}, api.Fault{At: 3, Kind: api.Within}, api.Fault{At: 5, Kind: api.Ahead})
	programs(t, m, 1, 0, 0, api.ErrDown)
	c.Start()
	stands(t, m, 0, api.Block{State: api.SOpen}) // it was opened, and nothing is in it
	programs(t, m, 1, 0, 0, api.ErrDown)
	c.Start()
	programs(t, m, 1, 1, 0, api.OK) // the page of the block 0 is torn: it is closed
	stands(t, m, 0, api.Block{State: api.SStale})
	programs(t, m, 2, 0, 0, api.ErrDown)
	stands(t, m, 1, api.Block{State: api.SOpen, Live: 1, Next: 1})
	c.Start()
	programs(t, m, 2, 2, 0, api.OK)
	stands(t, m, 1, api.Block{State: api.SFull, Live: 1, Next: 1})
	programs(t, m, 3, 0, 0, api.ErrDown)
	c.Start()
	programs(t, m, 3, 2, 1, api.OK)
	if m.Free() != 5 || m.Room() != 22 {
		t.Error("Free, Room:", m.Free(), m.Room())
	}
}

func TestProgramOfBlocksThatAreNotFresh(t *testing.T) { // P6.2, P6.6
	c := newChip(t)
	for _, k := range []int{0, 1, 3} {
		is(t, "the chip's Program", c.Program(k, 0, page(7)), api.OK)
	}
	m := manage(t, c, 0, 1, 2, 3)
	strokes := c.Strokes()
	programs(t, m, 1, 2, 0, api.OK) // 0 and 1 are left one behind the other
	if c.Strokes() != strokes+1 {
		t.Error("strokes:", c.Strokes()-strokes)
	}
	for k, want := range []int{api.SStale, api.SStale, api.SOpen, api.SFree, api.SStale} {
		if got := blocks(t, m)[k].State; got != want {
			t.Errorf("the block %d: %d, not %d", k, got, want)
		}
	}
	is(t, "Drop", m.Drop(2), api.OK)
	is(t, "the chip's Program", c.Program(2, 1, page(7)), api.OK) // behind the manager's back
	programs(t, m, 1, 0, 0, api.ErrFull)
	stands(t, m, 2, api.Block{State: api.SStale, Next: 1})
	stands(t, m, 3, api.Block{State: api.SStale})
	if m.Free() != 0 || m.Room() != 0 {
		t.Error("Free, Room:", m.Free(), m.Room())
	}
	// One that failed, behind one that was left.
	is(t, "Erase", m.Erase(3), api.OK)
	is(t, "Erase", m.Erase(1), api.OK)
	is(t, "the chip's Program", c.Program(1, 0, page(7)), api.OK)
	script(t, c, api.Fault{At: 0, Kind: api.Failed})
	programs(t, m, 1, 3, 0, api.ErrFail)
}

func TestDrop(t *testing.T) { // P6.3, P6.6
	c, m := allFresh(t)
	for i := range 6 {
		programs(t, m, 1, i/4, i%4, api.OK)
	}
	for n := 3; n > 0; n-- {
		is(t, "Drop", m.Drop(0), api.OK)
		stands(t, m, 0, api.Block{State: api.SFull, Live: n, Next: 4})
	}
	c.Lose() // no power is asked for
	is(t, "Drop", m.Drop(0), api.OK)
	stands(t, m, 0, api.Block{State: api.SStale, Next: 4})
	is(t, "Drop of a stale one", m.Drop(0), api.ErrArg)
	is(t, "Drop of the open one", m.Drop(1), api.OK)
	is(t, "Drop of the open one", m.Drop(1), api.OK)
	stands(t, m, 1, api.Block{State: api.SOpen, Next: 2}) // it goes on
	is(t, "Drop of the open one", m.Drop(1), api.ErrArg)
	c.Start()
	programs(t, m, 1, 1, 2, api.OK)
	for _, k := range []int{2, 7, 8, -1, math.MaxInt, math.MinInt} {
		is(t, "Drop of none", m.Drop(k), api.ErrArg)
	}
	if got := gc.Live(blocks(t, m)); got != 1 {
		t.Error("Live of all:", got)
	}
}

func TestErase(t *testing.T) { // P6.3
	c, m := allFresh(t)
	for i := range 6 {
		programs(t, m, 1, i/4, i%4, api.OK)
	}
	is(t, "Erase of a full one", m.Erase(0), api.ErrArg)
	for range 4 {
		is(t, "Drop", m.Drop(0), api.OK)
	}
	is(t, "Erase of a stale one", m.Erase(0), api.OK)
	stands(t, m, 0, api.Block{State: api.SFree, Wear: 1})
	is(t, "Erase of a free one", m.Erase(0), api.OK)
	stands(t, m, 0, api.Block{State: api.SFree, Wear: 2})
	is(t, "Erase of the open one", m.Erase(1), api.ErrArg)
	is(t, "Drop", m.Drop(1), api.OK)
	is(t, "Drop", m.Drop(1), api.OK)
	is(t, "Erase of the open one in which nothing is needed", m.Erase(1), api.ErrArg)
	if b, _ := c.Read(0, 0); !bytes.Equal(b, page(255)) || c.Wear(0) != 2 || c.Wear(1) != 0 || c.Strokes() != 8 {
		t.Error("the chip:", b, c.Wear(0), c.Wear(1), c.Strokes())
	}
	is(t, "Retire", m.Retire(5), api.OK)
	for _, k := range []int{5, 8, -1, math.MaxInt, math.MinInt} {
		is(t, "Erase of none", m.Erase(k), api.ErrArg)
		is(t, "Retire of none", m.Retire(k), api.ErrArg)
	}
	c.Lose()
	for _, k := range []int{0, 5, 8, -1} {
		is(t, "Erase without power", m.Erase(k), api.ErrDown)
		is(t, "Retire without power", m.Retire(k), api.ErrDown)
	}
}

func TestEraseOfAnOpenOneWithNothingInIt(t *testing.T) { // P6.3
	for _, failed := range []bool{false, true} {
		c, m := allFresh(t)
		script(t, c, api.Fault{At: 0, Kind: api.Ahead})
		programs(t, m, 1, 0, 0, api.ErrDown)
		c.Start()
		stands(t, m, 0, api.Block{State: api.SOpen})
		want := api.Block{State: api.SFree, Wear: 1}
		if failed {
			script(t, c, api.Fault{At: 0, Kind: api.Failed})
			is(t, "Erase", m.Erase(0), api.ErrFail)
			want.State = api.SBad
		} else {
			is(t, "Erase", m.Erase(0), api.OK)
		}
		stands(t, m, 0, want)
		programs(t, m, 1, 1, 0, api.OK)
	}
}

func TestEraseThatFails(t *testing.T) { // P6.3, P6.7, P6.8
	c, m := allFresh(t)
	for i := range 4 {
		programs(t, m, 1, 0, i, api.OK)
		is(t, "Drop", m.Drop(0), api.OK)
	}
	script(t, c, api.Fault{At: 0, Kind: api.Failed}, api.Fault{At: 1, Kind: api.Failed})
	is(t, "Erase", m.Erase(0), api.ErrFail)
	stands(t, m, 0, api.Block{State: api.SBad, Wear: 1})
	is(t, "Erase", m.Erase(3), api.ErrFail)
	stands(t, m, 3, api.Block{State: api.SBad, Wear: 1})
	if !c.Bad(0) || !c.Bad(3) || c.Bad(1) || m.Left() != -1 || m.Free() != 6 {
		t.Error("bad ones, Left, Free:", c.Bad(0), c.Bad(3), c.Bad(1), m.Left(), m.Free())
	}
	is(t, "Erase again", m.Erase(0), api.ErrArg)
	is(t, "Retire", m.Retire(0), api.ErrArg)
	is(t, "Drop", m.Drop(0), api.ErrArg)
	programs(t, m, 1, 1, 0, api.OK)
	stands(t, m, 0, api.Block{State: api.SBad, Wear: 1})
}

func TestEraseWithoutPower(t *testing.T) { // P6.3
	c, m := allFresh(t)
	for i := range 4 {
		programs(t, m, 1, 0, i, api.OK)
		is(t, "Drop", m.Drop(0), api.OK)
	}
	stale := api.Block{State: api.SStale, Next: 4}
	script(t, c, api.Fault{At: 0, Kind: api.Ahead}, api.Fault{At: 1, Kind: api.Within}, api.Fault{At: 3, Kind: api.Within})
	is(t, "Erase", m.Erase(0), api.ErrDown)
	stands(t, m, 0, stale)
	c.Start()
	is(t, "Erase", m.Erase(0), api.ErrDown)
	stale.Wear = 1
	stands(t, m, 0, stale)
	c.Start()
	is(t, "Erase", m.Erase(0), api.OK)
	stands(t, m, 0, api.Block{State: api.SFree, Wear: 2})
	// A free one that was broken off is closed, when it is opened.
	is(t, "Erase", m.Erase(1), api.ErrDown)
	c.Start()
	stands(t, m, 1, api.Block{State: api.SFree, Wear: 1})
	for k := 2; k < 8; k++ {
		is(t, "Erase", m.Erase(k), api.OK)
		is(t, "Erase", m.Erase(k), api.OK)
	}
	programs(t, m, 1, 0, 0, api.OK)
	stands(t, m, 1, api.Block{State: api.SStale, Wear: 1})
}

func TestRetire(t *testing.T) { // P6.3, P6.7, P6.8
	c, m := allFresh(t)
	for i := range 5 {
		programs(t, m, 1, i/4, i%4, api.OK)
	}
	is(t, "Retire of a full one", m.Retire(0), api.ErrArg)
	is(t, "Retire of the open one", m.Retire(1), api.ErrArg)
	strokes := c.Strokes()
	is(t, "Drop", m.Drop(1), api.OK)
	is(t, "Retire of the open one in which nothing is needed", m.Retire(1), api.OK)
	stands(t, m, 1, api.Block{State: api.SBad})
	is(t, "Retire of a free one", m.Retire(2), api.OK)
	for range 4 {
		is(t, "Drop", m.Drop(0), api.OK)
	}
	is(t, "Retire of a stale one", m.Retire(0), api.OK)
	stands(t, m, 0, api.Block{State: api.SBad})
	is(t, "Retire again", m.Retire(0), api.ErrArg)
	for k := range 8 {
		if c.Bad(k) != (k < 3) {
			t.Errorf("the chip's Bad(%d): %v", k, c.Bad(k))
		}
	}
	if m.Left() != -2 || m.Free() != 5 || m.Room() != 20 || c.Strokes() != strokes {
		t.Error("Left, Free, Room:", m.Left(), m.Free(), m.Room())
	}
	programs(t, m, 1, 3, 0, api.OK)
}

func TestNext(t *testing.T) { // P6.4
	// With room from as many pages as a block has on.
	c := newChip(t)
	live := []int{1, 4, 4, 4, 4, 4, 4, 0}
	m, _ := Open(c, []bool{7: true}, live, 1, 0)
	if got := m.Next(); got != (gc.Action{Kind: gc.Move, Block: 0}) || m.Room() != 4 {
		t.Error("with room:", got, m.Room())
	}
	programs(t, m, 1, 7, 0, api.OK)
	if got := m.Next(); got != (gc.Action{Kind: gc.Nothing, Block: -1}) || m.Room() != 3 {
		t.Error("without room:", got, m.Room())
	}
	is(t, "Drop", m.Drop(0), api.OK)
	if got := m.Next(); got != (gc.Action{Kind: gc.Erase, Block: 0}) {
		t.Error("a stale one:", got)
	}
	// By the Wear that the chip has now.
	for range 4 {
		is(t, "Erase", m.Erase(0), api.OK)
	}
	if got := m.Next(); got != (gc.Action{Kind: gc.Move, Block: 1}) {
		t.Error("the least Wear:", got)
	}
}

func TestNextOfBlocksThatLieApart(t *testing.T) { // P6.4
	live := []int{4, 3, 4, 4, 0, 0, 4, 4}
	fresh := []bool{5: true, 7: false}
	wear := func(greatest int) []int { return []int{0, 1, 1, 1, greatest, 3, 1, 1} }
	next := func(wear []int, bad ...int) gc.Action {
		t.Helper()
		m, e := Open(wornChip(t, wear, bad...), fresh, live, 1, 0)
		if e != api.OK {
			t.Fatal("Open:", e)
		}
		return m.Next()
	}
	// A gap of just Spread counts: the stale one may not be erased.
	if got := next(wear(4)); got != (gc.Action{Kind: gc.Move, Block: 1}) {
		t.Error("a gap of 4:", got)
	}
	// One above it does not: it may.
	if got := next(wear(5)); got != (gc.Action{Kind: gc.Erase, Block: 4}) {
		t.Error("a gap of 5:", got)
	}
	// What is bad makes no gap.
	if got := next([]int{5, 6, 6, 6, 9, 7, 0, 99}, 6, 7); got != (gc.Action{Kind: gc.Move, Block: 1}) {
		t.Error("bad ones apart:", got)
	}
	// It is the gap of when it was opened that counts.
	m, _ := Open(wornChip(t, wear(4)), fresh, live, 1, 0)
	is(t, "Erase", m.Erase(4), api.OK)
	for range 3 {
		is(t, "Drop", m.Drop(1), api.OK)
	}
	is(t, "Erase", m.Erase(1), api.OK)
	if got := m.Next(); got != (gc.Action{Kind: gc.Move, Block: 0}) {
		t.Error("a gap that came later:", got) // else it were Burn 1
	}
	m, _ = Open(wornChip(t, []int{0, 5, 5, 5, 5, 5, 5, 5}), make([]bool, 8), []int{0, 4, 4, 4, 4, 4, 4, 4}, 1, 0)
	for range 7 {
		is(t, "Erase", m.Erase(0), api.OK)
	}
	if got := m.Next(); got != (gc.Action{Kind: gc.Burn, Block: 0}) {
		t.Error("a gap that went:", got) // else it were Move 1
	}
	stands(t, m, 0, api.Block{State: api.SFree, Wear: 7}) // All tells the chip's Wear
}

func TestNextOfAChipThatIsWornOut(t *testing.T) { // P6.4
	c := wornChip(t, slices.Repeat([]int{1 << 40}, 8))
	m := manage(t, c)
	if got := m.Next(); got != (gc.Action{Kind: gc.Erase, Block: 0}) {
		t.Error("at the edge:", got)
	}
	is(t, "Erase", m.Erase(0), api.OK)
	if got := m.Next(); got != (gc.Action{Kind: gc.Nothing, Block: -1}) {
		t.Error("beyond it no row is right:", got)
	}
}

func TestLeft(t *testing.T) { // P6.4, P6.8
	for _, c := range []struct{ reserve, bad, want int }{
		{0, 2, 0}, {0, 0, -2}, {3, 1, 2}, {3, 2, 3}, {2, 5, 5}, {math.MaxInt, 2, math.MaxInt},
		{math.MaxInt, 1, math.MaxInt - 1}, {math.MaxInt, 0, math.MaxInt - 2}, {0, math.MaxInt, math.MaxInt - 2},
		{2, math.MaxInt, math.MaxInt}, {3, math.MaxInt, math.MaxInt}, {math.MaxInt, math.MaxInt, math.MaxInt},
	} {
		m, e := Open(newChip(t, 1, 4), make([]bool, 8), make([]int, 8), c.reserve, c.bad)
		if e != api.OK || m.Left() != c.want {
			t.Errorf("%d, %d: %d, %d, not %d", c.reserve, c.bad, m.Left(), e, c.want)
		}
	}
	m, _ := Open(newChip(t, 1), make([]bool, 8), make([]int, 8), 2, 1)
	for i, k := range []int{0, 3, 7, 2} {
		if m.Left() != 2-i {
			t.Errorf("Left: %d, not %d", m.Left(), 2-i)
		}
		is(t, "Retire", m.Retire(k), api.OK)
	}
}

func TestAllAsFarAsTheyAreAskedFor(t *testing.T) { // P6.4
	_, m := allFresh(t)
	for want := 1; want <= 8; want++ {
		n := 0
		for k := range m.All() {
			if k != n {
				t.Errorf("All: %d, not %d", k, n)
			}
			n++
			if n == want {
				break
			}
		}
		if n != want {
			t.Errorf("%d blocks, not %d", n, want)
		}
	}
	all := m.All()
	programs(t, m, 1, 0, 0, api.OK)
	for range 2 {
		for k, b := range all {
			if b != (api.Block{State: api.SFree}) {
				t.Errorf("the block %d of before: %v", k, b)
			}
		}
	}
	stands(t, m, 0, api.Block{State: api.SOpen, Live: 1, Next: 1})
}

func TestNoManager(t *testing.T) { // P6.2, P6.3, P6.4, P1
	var none *Blocks
	for _, b := range [][]byte{nil, page(1)} {
		if k, n, e := none.Program(b); k != 0 || n != 0 || e != api.ErrNil {
			t.Error("Program:", k, n, e)
		}
	}
	for _, k := range []int{0, -1, 99} {
		is(t, "Drop", none.Drop(k), api.ErrNil)
		is(t, "Erase", none.Erase(k), api.ErrNil)
		is(t, "Retire", none.Retire(k), api.ErrNil)
	}
	nothing := func(m *Blocks) {
		t.Helper()
		if m.Next() != (gc.Action{Kind: gc.Nothing, Block: -1}) || m.Room() != 0 || m.Free() != 0 || m.Left() != 0 {
			t.Error("Next, Room, Free, Left:", m.Next(), m.Room(), m.Free(), m.Left())
		}
		for k, b := range m.All() {
			t.Error("All:", k, b)
		}
	}
	nothing(none)
	// One that was not opened has no chip, and no block.
	zero := &Blocks{}
	nothing(zero)
	_, _, e := zero.Program(page(1))
	is(t, "Program", e, api.ErrDown)
	is(t, "Drop", zero.Drop(0), api.ErrArg)
	is(t, "Erase", zero.Erase(0), api.ErrDown)
	is(t, "Retire", zero.Retire(0), api.ErrDown)
}
