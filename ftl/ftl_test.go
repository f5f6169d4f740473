package ftl

import (
	"bytes"
	"math"
	"slices"
	"testing"

	"cuneiform/api"
	"cuneiform/nand"
	"cuneiform/tag"
)

var eight = api.Geo{Blocks: 8, Pages: 4, Size: 64}

// newChip is a chip of eight blocks of four pages.
func newChip(t *testing.T, bad ...int) *nand.Chip {
	t.Helper()
	c, e := nand.New(eight, bad)
	if e != api.OK {
		t.Fatal("the chip:", e)
	}
	return c
}

// payload is a logical page's bytes, all x; text is a seal's.
func payload(x byte) []byte { return bytes.Repeat([]byte{x}, 64) }
func text(x byte) []byte    { return bytes.Repeat([]byte{x}, 56) }

// formatted is a translation on a new chip.
func formatted(t *testing.T, reserve int, bad ...int) (*nand.Chip, *FTL) {
	t.Helper()
	c := newChip(t, bad...)
	f, e := Format(c, reserve, text(1))
	if e != api.OK || f == nil {
		t.Fatal("Format:", e)
	}
	return c, f
}

// is fails the test, if an answer is another one than asked for.
func is(t *testing.T, what string, got, want api.Errno) {
	t.Helper()
	if got != want {
		t.Errorf("%s: %d, not %d", what, got, want)
	}
}

// reads fails the test, if other bytes are read of a page.
func reads(t *testing.T, f *FTL, page uint32, x byte) {
	t.Helper()
	if b, e := f.Read(page); e != api.OK || !bytes.Equal(b, payload(x)) {
		t.Errorf("Read of %d: %v, %d, not %d", page, b, e, x)
	}
}

// none fails the test, if a page is there.
func none(t *testing.T, f *FTL, page uint32) {
	t.Helper()
	if b, e := f.Read(page); e != api.ErrNoEntry || b != nil {
		t.Errorf("Read of %d: %v, %d", page, b, e)
	}
}

// pages fails the test, if other pages are there.
func pages(t *testing.T, f *FTL, want ...uint32) {
	t.Helper()
	if got := slices.Collect(f.Pages()); !slices.Equal(got, want) {
		t.Errorf("Pages: %v, not %v", got, want)
	}
}

// script sets a chip's faults.
func script(t *testing.T, c *nand.Chip, l ...api.Fault) {
	t.Helper()
	is(t, "Script", c.Script(l), api.OK)
}

// failing are so many strokes that fail, from one on.
func failing(from, n int) []api.Fault {
	var l []api.Fault
	for i := range n {
		l = append(l, api.Fault{At: from + i, Kind: api.Failed})
	}
	return l
}

// opened is what the chip holds, as far as another object tells.
func opened(t *testing.T, c *nand.Chip) *FTL {
	t.Helper()
	f, e := Open(c)
	if e != api.OK || f == nil {
		t.Fatal("Open:", e)
	}
	return f
}

// whole are the chip's valid pages.
func whole(c *nand.Chip) map[place]api.Tag {
	l := map[place]api.Tag{}
	for k := range c.Geo().Blocks {
		for i, b := range c.Pages(k) {
			if t, _, e := tag.Read(b); e == api.OK {
				l[place{k, i}] = t
			}
		}
	}
	return l
}

func TestFormat(t *testing.T) { // P7.1, P7.4
	c, f := formatted(t, 1)
	if f.Capacity() != 22 || f.Used() != 1 || f.ReadOnly() || !bytes.Equal(f.Text(), text(1)) {
		t.Error("Capacity, Used, ReadOnly, Text:", f.Capacity(), f.Used(), f.ReadOnly(), f.Text())
	}
	pages(t, f)
	b, _ := c.Read(0, 0)
	got, p, e := tag.Read(b)
	if got != (api.Tag{Kind: api.KSeal, Seq: 1, Epoch: 1}) || e != api.OK || !bytes.Equal(p, append([]byte{1, 0, 0, 0, 0, 0, 0, 0}, text(1)...)) {
		t.Error("the seal:", got, p, e)
	}
	if c.Strokes() != 9 || len(whole(c)) != 1 {
		t.Error("strokes:", c.Strokes(), whole(c))
	}
	for k := range 8 {
		if c.Wear(k) != 1 {
			t.Error("Wear of", k, c.Wear(k))
		}
	}
	is(t, "Write", f.Write(21, payload(7)), api.OK)
	is(t, "Seal", f.Seal(text(9)), api.OK)
	f, e = Format(c, 2, text(2)) // what was there is gone
	if e != api.OK || f.Capacity() != 18 || f.Used() != 1 || c.Wear(5) != 2 || len(whole(c)) != 1 {
		t.Error("formatted anew:", e, f.Capacity(), f.Used(), whole(c))
	}
	none(t, f, 17)
	none(t, opened(t, c), 17)
}

func TestFormatOfWhatMayNotBe(t *testing.T) { // P7.1, P1
	down := newChip(t)
	down.Lose()
	for _, c := range []struct {
		what    string
		chip    *nand.Chip
		reserve int
		text    int
		want    api.Errno
	}{
		{"no chip", nil, 0, 0, api.ErrNil},
		{"a chip that is down", down, 0, 0, api.ErrDown},
		{"a chip that is none", &nand.Chip{}, 1, 56, api.ErrDown},
		{"no reserve", newChip(t), 0, 56, api.ErrArg},
		{"less", newChip(t), -1, 56, api.ErrArg},
		{"much less", newChip(t), math.MinInt, 56, api.ErrArg},
		{"more than there may be", newChip(t), 1<<15 + 1, 56, api.ErrArg},
		{"much more", newChip(t), math.MaxInt, 56, api.ErrArg},
		{"a text too short", newChip(t), 1, 55, api.ErrArg},
		{"a text too long", newChip(t), 1, 57, api.ErrArg},
		{"a text of a page", newChip(t), 1, 64, api.ErrArg},
		{"no text", newChip(t), 1, 0, api.ErrArg},
		{"a text too short for a reserve too great", newChip(t), 100, 55, api.ErrArg},
		{"as much as there may be", newChip(t), 1 << 15, 56, api.ErrFull},
		{"one data block", newChip(t), 6, 56, api.ErrFull},
		{"one data block, with a bad one", newChip(t, 3), 5, 56, api.ErrFull},
		{"no data block", newChip(t, 1, 2, 3), 4, 56, api.ErrFull},
		{"no good block", newChip(t, 0, 1, 2, 3, 4, 5, 6, 7), 1, 56, api.ErrFull},
	} {
		f, e := Format(c.chip, c.reserve, make([]byte, c.text))
		if f != nil || e != c.want || c.chip.Strokes() != 0 {
			t.Errorf("%s: %d, not %d, and %d strokes", c.what, e, c.want, c.chip.Strokes())
		}
	}
	for _, c := range []struct {
		reserve, capacity int
		bad               []int
	}{{5, 6, nil}, {4, 6, []int{0}}, {1, 6, []int{0, 3, 6, 7}}, {1, 22, nil}, {3, 10, []int{1}}} {
		if f, e := Format(newChip(t, c.bad...), c.reserve, text(1)); e != api.OK || f.Capacity() != c.capacity {
			t.Errorf("reserve %d, bad %v: %d, %d", c.reserve, c.bad, f.Capacity(), e)
		}
	}
}

func TestFormatThatFails(t *testing.T) { // P7.1
	// What fails while it is erased is marked, and nothing of the reserve is needed for it.
	c := newChip(t, 0)
	script(t, c, api.Fault{At: 2, Kind: api.Failed}, api.Fault{At: 4, Kind: api.Failed, Data: []byte{1, 1, 1, 1}})
	f, e := Format(c, 1, text(3))
	if e != api.OK || !c.Bad(3) || !c.Bad(5) || f.Capacity() != 10 || f.ReadOnly() {
		t.Fatal("with two that fail:", e)
	}
	if b, _ := c.Read(1, 0); b[0] != 1 || b[1] != 0 || b[2] != 3 || b[3] != 0 {
		t.Error("the seal:", b[:8])
	}
	// Only one more may go bad.
	script(t, c, failing(0, 1)...)
	is(t, "Seal", f.Seal(text(4)), api.OK)
	script(t, c, failing(0, 1)...)
	is(t, "Seal", f.Seal(text(5)), api.ErrReserve)

	c = newChip(t)
	script(t, c, failing(3, 1)...)
	if f, e := Format(c, 5, text(3)); f != nil || e != api.ErrFull || !c.Bad(3) || c.Strokes() != 8 {
		t.Error("with too few data blocks behind the erasing:", e, c.Strokes())
	}
	// The seal fails: as often as the reserve has it, and once more.
	c = newChip(t)
	script(t, c, failing(8, 2)...)
	f, e = Format(c, 2, text(3))
	if e != api.OK || !c.Bad(0) || !c.Bad(1) || c.Bad(2) || f.Capacity() != 18 || f.ReadOnly() {
		t.Error("with two programs that fail:", e)
	}
	if b, _ := c.Read(2, 0); b[0] != 2 || b[2] != 0 {
		t.Error("the seal:", b[:8])
	}
	c = newChip(t)
	script(t, c, failing(8, 3)...)
	if f, e := Format(c, 2, text(3)); f != nil || e != api.ErrReserve {
		t.Error("with three programs that fail:", e)
	}
	for at := range 9 {
		for _, kind := range []int{api.Ahead, api.Within} {
			c = newChip(t)
			script(t, c, api.Fault{At: at, Kind: kind})
			if f, e := Format(c, 2, text(3)); f != nil || e != api.ErrDown {
				t.Error("with the power lost at", at, e)
			}
		}
	}
}

// craft is a chip of pages that were made by hand, each with the tag it was given; bad blocks are marked.
type craft struct {
	pages [][]byte
	bad   []bool
}

func crafted() *craft { return &craft{make([][]byte, 32), make([]bool, 8)} }

func (c *craft) put(block, page int, g api.Tag, payload []byte) *craft {
	c.pages[4*block+page], _ = tag.Write(g, payload)
	return c
}

// page is a logical page of bytes x.
func (c *craft) page(block, page int, p uint32, seq, epoch uint64, x byte) *craft {
	return c.put(block, page, api.Tag{Kind: api.KPage, Page: p, Seq: seq, Epoch: epoch}, payload(x))
}

// seal is a seal of a reserve of 1, whose text is x.
func (c *craft) seal(block, page int, seq, epoch uint64, x byte) *craft {
	return c.put(block, page, api.Tag{Kind: api.KSeal, Seq: seq, Epoch: epoch}, append([]byte{1, 0, 0, 0, 0, 0, 0, 0}, text(x)...))
}

func (c *craft) mark(block int) *craft {
	c.bad[block] = true
	return c
}

func (c *craft) chip(t *testing.T) *nand.Chip {
	t.Helper()
	n, e := nand.Load(eight, c.pages, c.bad, make([]int, 8))
	if e != api.OK {
		t.Fatal("the chip:", e)
	}
	return n
}

func TestOpenOfWhatMayNotBe(t *testing.T) { // P7.2, P1
	_, e := Open(nil)
	is(t, "no chip", e, api.ErrNil)
	c, _ := formatted(t, 1)
	c.Lose()
	_, e = Open(c)
	is(t, "a chip that is down", e, api.ErrDown)
	_, e = Open(&nand.Chip{})
	is(t, "a chip that is none", e, api.ErrDown)
	const top = 1 << 61
	with := func(place int, x byte) *craft {
		p := append([]byte{1, 0, 0, 0, 0, 0, 0, 0}, text(1)...)
		p[place] = x
		return crafted().put(0, 0, api.Tag{Kind: api.KSeal, Seq: 1, Epoch: 1}, p)
	}
	good := func() *craft { return crafted().seal(0, 0, 1, 1, 1) }
	for _, c := range []struct {
		what string
		chip *craft
		want api.Errno
	}{
		{"an empty chip", crafted(), api.ErrCorrupt},
		{"a page without a seal", crafted().page(0, 0, 3, 1, 1, 1), api.ErrCorrupt},
		{"a seal with a page's number", crafted().put(0, 0, api.Tag{Kind: api.KSeal, Page: 1, Seq: 1, Epoch: 1}, append([]byte{1, 0, 0, 0, 0, 0, 0, 0}, text(1)...)), api.ErrCorrupt},
		{"a seal in a bad block", good().mark(0), api.ErrCorrupt},
		{"a reserve of 0", with(0, 0), api.ErrCorrupt},
		{"two data blocks", with(0, 5), api.OK},
		{"one data block", with(0, 6), api.ErrCorrupt},
		{"a great reserve", with(1, 255), api.ErrCorrupt},
		{"a bad block too much", with(2, 1), api.ErrCorrupt},
		{"many bad blocks too much", with(3, 1), api.ErrCorrupt},
		{"as many bad blocks", with(2, 1).mark(5), api.OK},
		{"more bad blocks", with(2, 1).mark(5).mark(6).mark(7), api.OK},
		{"one data block, with bad ones", with(2, 5).mark(5).mark(6).mark(7).mark(4).mark(3), api.ErrCorrupt},
		{"a byte that is not 0", with(4, 1), api.ErrCorrupt},
		{"another one", with(5, 1), api.ErrCorrupt},
		{"a third one", with(6, 1), api.ErrCorrupt},
		{"a fourth one", with(7, 128), api.ErrCorrupt},
		{"a seal", good(), api.OK},
		{"a Seq as great as may be", good().page(1, 0, 3, top, 1, 1), api.OK},
		{"a Seq above", good().page(1, 0, 3, top+1, 1, 1), api.ErrCorrupt},
		{"an Epoch as great as may be", good().page(1, 0, 3, 2, top, 1), api.OK},
		{"an Epoch above", good().page(1, 0, 3, 2, top+1, 1), api.ErrCorrupt},
		{"a Seq above of a page that is no logical one", good().page(1, 0, 8191, top+1, 1, 1), api.ErrCorrupt},
		{"a Seq above in a bad block", good().page(1, 0, 3, top+1, top+1, 1).mark(1), api.OK},
		{"a Seq above of a page 0", good().page(1, 0, 0, top+1, top+1, 1), api.OK},
		{"a seal with a page's number beside a seal", good().put(1, 0, api.Tag{Kind: api.KSeal, Page: 2, Seq: top + 1, Epoch: top + 1}, payload(0)), api.OK},
		{"a seal's Seq as great as may be", crafted().seal(0, 0, top, top, 1), api.OK},
		{"a seal's Seq above", crafted().seal(0, 0, top+1, 1, 1), api.ErrCorrupt},
		{"a seal's Epoch above", crafted().seal(0, 0, 1, top+1, 1), api.ErrCorrupt},
		{"a former seal's Seq above", good().seal(1, 0, 2, 2, 1).seal(2, 0, top+1, 1, 1), api.ErrCorrupt},
	} {
		n := c.chip.chip(t)
		f, e := Open(n)
		if e != c.want || (f != nil) != (e == api.OK) || n.Strokes() != 0 {
			t.Errorf("%s: %d, not %d", c.what, e, c.want)
		}
	}
}

func TestOpenFindsWhatIsSealed(t *testing.T) { // P7.2, P7.8
	c := crafted().
		seal(0, 0, 40, 3, 7). // a greater Seq, of a former epoch
		seal(0, 1, 9, 4, 8).
		seal(0, 2, 8, 4, 9).
		page(1, 0, 3, 5, 1, 10).
		page(1, 1, 3, 6, 1, 11).
		page(1, 2, 3, 4, 4, 12).
		page(2, 0, 4, 7, 4, 13).
		page(2, 1, 4, 50, 5, 14). // not sealed
		page(2, 2, 5, 51, 5, 15).
		page(3, 0, 21, 12, 2, 16).
		page(3, 1, 22, 13, 2, 17). // no logical page
		page(3, 2, 0, 14, 2, 18).
		page(4, 0, 4, 60, 4, 19).mark(4).
		chip(t)
	for range 2 {
		was := c.Reads()
		f := opened(t, c)
		pages(t, f, 3, 4, 21)
		reads(t, f, 3, 11)
		reads(t, f, 4, 13)
		reads(t, f, 21, 16)
		if !bytes.Equal(f.Text(), text(8)) || f.Used() != 4 || f.Capacity() != 22 || f.ReadOnly() {
			t.Error("Text, Used, Capacity:", f.Text(), f.Used(), f.Capacity())
		}
		if c.Reads()-was > 2*32 || c.Strokes() != 0 {
			t.Error("reads:", c.Reads()-was)
		}
	}
}

func TestOpenOfPagesThatStandTwice(t *testing.T) { // P7.2, P7.8
	// Which one is taken shows, with a chip that was made by hand, in its bytes.
	c := crafted().
		seal(7, 0, 9, 4, 8).
		page(1, 0, 3, 2, 1, 10).
		page(2, 0, 3, 2, 1, 11).
		page(2, 1, 4, 3, 1, 12). // in the block 2 two, in the block 1 one
		page(4, 0, 5, 4, 1, 13).
		page(5, 0, 5, 4, 1, 14). // as many: the first block
		page(6, 0, 6, 5, 1, 15).
		page(6, 1, 6, 5, 1, 16). // one block: the first one
		page(4, 1, 6, 1, 1, 17). // older ones do not count
		page(5, 1, 3, 1, 1, 18).
		page(5, 2, 4, 90, 5, 19). // nor later ones
		page(1, 1, 4, 2, 1, 20).
		page(1, 2, 6, 1, 1, 21).
		chip(t)
	f := opened(t, c)
	reads(t, f, 3, 11)
	reads(t, f, 4, 12)
	reads(t, f, 5, 13)
	reads(t, f, 6, 15)
	// Pages that are no logical ones count where the blocks are held against each other, and so does a seal.
	c = crafted().
		seal(2, 0, 9, 4, 8).
		seal(1, 0, 9, 4, 7).
		page(1, 1, 3, 2, 1, 10).
		page(2, 1, 3, 2, 1, 11).
		page(2, 2, 4000, 3, 1, 12).
		chip(t)
	f = opened(t, c)
	reads(t, f, 3, 11)
	if !bytes.Equal(f.Text(), text(8)) {
		t.Error("Text:", f.Text())
	}
}

func TestOpenedWithoutABlockToWriteTo(t *testing.T) { // P7.2, P7.3
	all := func(but int) *craft {
		c := crafted().seal(0, 0, 40, 3, 7).mark(6)
		for k := range 8 {
			if k > 0 && k != but {
				c.page(k, 0, uint32(k), uint64(k+1), 1, byte(k))
			}
		}
		return c
	}
	for but, readOnly := range map[int]bool{8: true, 5: false, 6: true} { // 6 is bad
		if f := opened(t, all(but).chip(t)); f.ReadOnly() != readOnly {
			t.Error("ReadOnly without", but, f.ReadOnly())
		}
	}
	// What is there in each block need not be sealed.
	for _, c := range []*craft{all(5).page(5, 0, 3, 3, 1, 9), all(5).page(5, 0, 3, 70, 4, 9), all(5).page(5, 0, 22, 70, 2, 9)} {
		if f := opened(t, c.chip(t)); f.ReadOnly() {
			t.Error("ReadOnly with a block that holds nothing sealed")
		}
	}
	c := all(8).chip(t)
	f := opened(t, c)
	is(t, "Write", f.Write(9, payload(9)), api.ErrReserve)
	is(t, "Seal", f.Seal(text(9)), api.ErrReserve)
	is(t, "Drop", f.Drop(2), api.OK)
	none(t, f, 2)
	pages(t, f, 1, 3, 4, 5, 7)
	reads(t, f, 3, 3)
	if c.Strokes() != 0 {
		t.Error("strokes:", c.Strokes())
	}
}

func TestReadWriteDropSeal(t *testing.T) { // P7.3, P7.4
	c, f := formatted(t, 1)
	b, s := payload(5), text(6)
	is(t, "Write", f.Write(21, b), api.OK)
	is(t, "Write", f.Write(1, payload(4)), api.OK)
	reads(t, f, 21, 5)
	reads(t, f, 1, 4)
	none(t, f, 2)
	if f.Used() != 3 {
		t.Error("Used:", f.Used())
	}
	pages(t, f, 1, 21)
	is(t, "Seal", f.Seal(s), api.OK)
	clear(b)
	clear(s)
	clear(f.Text())
	got, _ := f.Read(21)
	clear(got)
	reads(t, f, 21, 5)
	if !bytes.Equal(f.Text(), text(6)) || f.Used() != 3 {
		t.Error("Text, Used:", f.Text(), f.Used())
	}
	is(t, "Write", f.Write(21, payload(7)), api.OK)
	is(t, "Write", f.Write(21, payload(8)), api.OK)
	reads(t, f, 21, 8)
	if f.Used() != 4 { // what is sealed, and what was written once or twice
		t.Error("Used:", f.Used())
	}
	reads(t, opened(t, c), 21, 5)
	is(t, "Drop", f.Drop(21), api.OK)
	is(t, "Drop", f.Drop(21), api.OK)
	none(t, f, 21)
	pages(t, f, 1)
	if f.Used() != 3 { // it is sealed until the next seal
		t.Error("Used:", f.Used())
	}
	reads(t, opened(t, c), 21, 5)
	is(t, "Write", f.Write(21, payload(9)), api.OK)
	reads(t, f, 21, 9)
	pages(t, f, 1, 21)
	is(t, "Drop", f.Drop(1), api.OK)
	is(t, "Drop of what is not there", f.Drop(2), api.OK)
	is(t, "Seal", f.Seal(text(7)), api.OK)
	pages(t, f, 21)
	reads(t, f, 21, 9)
	none(t, f, 1)
	if f.Used() != 2 {
		t.Error("Used:", f.Used())
	}
	reads(t, opened(t, c), 21, 9)
}

func TestEachWritingTakesTheNextSeq(t *testing.T) { // P7.3: the words
	c, f := formatted(t, 1)
	is(t, "Write", f.Write(3, payload(1)), api.OK)
	is(t, "Write", f.Write(2, payload(2)), api.OK)
	is(t, "Write", f.Write(3, payload(3)), api.OK)
	is(t, "Seal", f.Seal(text(2)), api.OK)
	is(t, "Write", f.Write(9, payload(4)), api.OK)
	f = opened(t, c)
	is(t, "Write", f.Write(4, payload(5)), api.OK)
	is(t, "Seal", f.Seal(text(3)), api.OK)
	is(t, "Seal", f.Seal(text(3)), api.OK)
	want := map[place]api.Tag{
		{0, 0}: {Kind: api.KSeal, Seq: 1, Epoch: 1},
		{0, 1}: {Kind: api.KPage, Page: 3, Seq: 2, Epoch: 2},
		{0, 2}: {Kind: api.KPage, Page: 2, Seq: 3, Epoch: 2},
		{0, 3}: {Kind: api.KPage, Page: 3, Seq: 4, Epoch: 2},
		{1, 0}: {Kind: api.KSeal, Seq: 5, Epoch: 2},
		// The block 1 had a page of the epoch 3, which was never sealed: it was cleaned ahead of the first writing.
		{2, 0}: {Kind: api.KSeal, Seq: 5, Epoch: 2},
		{2, 1}: {Kind: api.KPage, Page: 4, Seq: 7, Epoch: 4},
		{2, 2}: {Kind: api.KSeal, Seq: 8, Epoch: 4},
		{2, 3}: {Kind: api.KSeal, Seq: 9, Epoch: 5},
	}
	delete(want, place{1, 0})
	got := whole(c)
	for at, g := range want {
		if got[at] != g {
			t.Errorf("%v: %v, not %v", at, got[at], g)
		}
	}
	if len(got) != len(want) {
		t.Error("the chip:", got)
	}
}

func TestWhatMayNotBe(t *testing.T) { // P7.3, P1
	c, f := formatted(t, 1)
	is(t, "Write", f.Write(5, payload(1)), api.OK)
	strokes := c.Strokes()
	refuses := func(page uint32, b []byte, want api.Errno) {
		t.Helper()
		is(t, "Write", f.Write(page, b), want)
		got, e := f.Read(page)
		if e != want || got != nil {
			t.Errorf("Read of %d: %v, %d, not %d", page, got, e, want)
		}
		is(t, "Drop", f.Drop(page), want)
	}
	for _, page := range []uint32{0, 22, 23, 8191, 8192, math.MaxUint32, 1 << 31} {
		refuses(page, payload(1), api.ErrArg)
		refuses(page, nil, api.ErrArg)
	}
	for _, n := range []int{0, 1, 63, 65, 96, 128} {
		is(t, "Write of another size", f.Write(5, make([]byte, n)), api.ErrArg)
	}
	for _, n := range []int{0, 55, 57, 64} {
		is(t, "Seal of another size", f.Seal(make([]byte, n)), api.ErrArg)
	}
	reads(t, f, 5, 1)
	c.Lose()
	for _, page := range []uint32{0, 5, 6, 22} {
		refuses(page, nil, api.ErrDown)
		refuses(page, payload(1), api.ErrDown)
	}
	is(t, "Seal", f.Seal(text(1)), api.ErrDown)
	is(t, "Seal", f.Seal(nil), api.ErrDown)
	pages(t, f, 5)
	if f.Used() != 2 || f.Capacity() != 22 || f.ReadOnly() || !bytes.Equal(f.Text(), text(1)) || c.Strokes() != strokes {
		t.Error("without power:", f.Used(), f.Capacity(), f.ReadOnly(), f.Text())
	}
}

func TestNone(t *testing.T) { // P7.3, P7.4, P1
	for _, page := range []uint32{0, 1, math.MaxUint32} {
		for f, want := range map[*FTL]api.Errno{nil: api.ErrNil, {}: api.ErrDown} {
			b, e := f.Read(page)
			if b != nil {
				t.Error("Read:", b)
			}
			is(t, "Read", e, want)
			is(t, "Write", f.Write(page, payload(1)), want)
			is(t, "Drop", f.Drop(page), want)
			is(t, "Seal", f.Seal(text(1)), want)
			pages(t, f)
			if len(f.Text()) != 0 || f.Used() != 0 || f.Capacity() != 0 {
				t.Error("Text, Used, Capacity:", f.Text(), f.Used(), f.Capacity())
			}
		}
	}
	var f *FTL
	if !f.ReadOnly() {
		t.Error("none is not read-only")
	}
}

func TestPagesAsFarAsTheyAreAskedFor(t *testing.T) { // P7.4
	_, f := formatted(t, 1)
	for _, page := range []uint32{7, 3, 20, 11} {
		is(t, "Write", f.Write(page, payload(1)), api.OK)
	}
	is(t, "Seal", f.Seal(text(1)), api.OK)
	is(t, "Write", f.Write(4, payload(1)), api.OK)
	is(t, "Write", f.Write(3, payload(1)), api.OK)
	is(t, "Drop", f.Drop(11), api.OK)
	l := f.Pages()
	pages(t, f, 3, 4, 7, 20)
	var got []uint32
	for page := range l {
		got = append(got, page)
		if page == 4 {
			break
		}
	}
	if !slices.Equal(got, []uint32{3, 4}) {
		t.Error("Pages:", got)
	}
	for page := range l { // what is done meanwhile plays no part
		is(t, "Drop", f.Drop(page), api.OK)
	}
	pages(t, f)
	if got := slices.Collect(l); !slices.Equal(got, []uint32{3, 4, 7, 20}) {
		t.Error("Pages of before:", got)
	}
}

func TestFull(t *testing.T) { // P7.3, P7.6, W2
	c, f := formatted(t, 1)
	for page := uint32(1); page < 22; page++ {
		is(t, "Write", f.Write(page, payload(byte(page))), api.OK)
	}
	if f.Used() != 22 {
		t.Error("Used:", f.Used())
	}
	for range 40 { // written again, it is used once
		is(t, "Write", f.Write(9, payload(9)), api.OK)
	}
	is(t, "Seal", f.Seal(text(1)), api.OK)
	strokes := c.Strokes()
	for page := uint32(1); page < 22; page++ {
		is(t, "Write", f.Write(page, payload(0)), api.ErrFull)
		reads(t, f, page, byte(page))
	}
	is(t, "Write of another size", f.Write(1, nil), api.ErrArg)
	is(t, "Drop", f.Drop(4), api.OK)
	is(t, "Write", f.Write(4, payload(0)), api.ErrFull) // it is sealed until the next seal
	none(t, f, 4)
	if c.Strokes() != strokes {
		t.Error("strokes:", c.Strokes()-strokes)
	}
	for range 40 {
		is(t, "Seal", f.Seal(text(2)), api.OK)
	}
	if f.Used() != 21 {
		t.Error("Used:", f.Used())
	}
	for i := range byte(100) { // one is written again and again, and all else stays
		is(t, "Write", f.Write(5, payload(i)), api.OK)
		is(t, "Write", f.Write(6, payload(i)), api.ErrFull)
		is(t, "Write", f.Write(5, payload(i+1)), api.OK)
		is(t, "Seal", f.Seal(text(i)), api.OK)
	}
	for _, f := range []*FTL{f, opened(t, c)} {
		for page := uint32(1); page < 22; page++ {
			switch {
			case page == 4:
				none(t, f, page)
			case page == 5:
				reads(t, f, page, 100)
			default:
				reads(t, f, page, byte(page))
			}
		}
	}
}

func TestOneWrittenAgainAndAgain(t *testing.T) { // W2, P7.7
	for _, sealing := range []int{1, 3, 1000} {
		c, f := formatted(t, 2)
		for page := uint32(1); page < 12; page++ {
			is(t, "Write", f.Write(page, payload(byte(page))), api.OK)
		}
		is(t, "Seal", f.Seal(text(1)), api.OK)
		for i := range 3000 {
			is(t, "Write", f.Write(3, payload(byte(i))), api.OK)
			if i%sealing == 0 {
				is(t, "Seal", f.Seal(text(1)), api.OK)
			}
			gap(t, c)
		}
		for page := uint32(1); page < 12; page++ {
			if page != 3 {
				reads(t, f, page, byte(page))
			}
		}
		if c.Wear(0) < 90 {
			t.Error("Wear:", c.Wear(0))
		}
	}
}

// gap fails the test, if the blocks' wear lies too far apart.
func gap(t *testing.T, c *nand.Chip) {
	t.Helper()
	var l []int
	for k := range c.Geo().Blocks {
		if !c.Bad(k) {
			l = append(l, c.Wear(k))
		}
	}
	if slices.Max(l)-slices.Min(l) > api.Spread {
		t.Fatal("the gap:", l)
	}
}

func TestReserve(t *testing.T) { // P7.3, P7.6, P7.9
	for reserve := 1; reserve < 4; reserve++ {
		c, f := formatted(t, reserve, 2)
		is(t, "Write", f.Write(1, payload(1)), api.OK)
		is(t, "Write", f.Write(2, payload(2)), api.OK)
		is(t, "Seal", f.Seal(text(2)), api.OK)
		is(t, "Write", f.Write(3, payload(3)), api.OK)
		is(t, "Drop", f.Drop(2), api.OK)
		for i := range reserve { // as many as the reserve has go bad, and are not seen
			script(t, c, failing(0, 1)...)
			is(t, "Write", f.Write(4, payload(byte(i))), api.OK)
			bad := 0
			for k := range 8 {
				if c.Bad(k) {
					bad++
				}
			}
			if bad != i+2 || f.ReadOnly() {
				t.Error("bad:", bad, f.ReadOnly())
			}
			reads(t, f, 4, byte(i))
			reads(t, f, 3, 3)
		}
		script(t, c, failing(0, 1)...)
		is(t, "Write", f.Write(4, payload(99)), api.ErrReserve)
		script(t, c)
		if !f.ReadOnly() {
			t.Error("it is not read-only")
		}
		strokes := c.Strokes()
		is(t, "Write", f.Write(5, payload(99)), api.ErrReserve)
		is(t, "Write of another size", f.Write(5, nil), api.ErrArg)
		is(t, "Seal", f.Seal(text(9)), api.ErrReserve)
		is(t, "Seal of another size", f.Seal(nil), api.ErrArg)
		if c.Strokes() != strokes {
			t.Error("strokes:", c.Strokes()-strokes)
		}
		pages(t, f, 1, 3, 4)
		reads(t, f, 1, 1)
		reads(t, f, 3, 3)
		reads(t, f, 4, byte(reserve-1))
		is(t, "Drop", f.Drop(3), api.OK)
		pages(t, f, 1, 4)
		f = opened(t, c)
		pages(t, f, 1, 2)
		reads(t, f, 1, 1)
		if !bytes.Equal(f.Text(), text(2)) {
			t.Error("Text:", f.Text())
		}
	}
}

func TestErasesThatFail(t *testing.T) { // P7.3, P7.6, P7.9
	c, f := formatted(t, 1)
	for i := 0; !f.ReadOnly(); i++ {
		script(t, c, api.Fault{At: 0, Kind: api.Failed, Data: []byte{2, 2, 0, 0}})
		strokes := c.Strokes()
		if e := f.Write(7, payload(byte(i))); e == api.ErrReserve {
			if !f.ReadOnly() || i == 0 {
				t.Fatal("refused:", i)
			}
			reads(t, f, 7, byte(i-1))
			break
		}
		reads(t, f, 7, byte(i))
		if c.Strokes() == strokes || i > 9 {
			t.Fatal("nothing failed")
		}
	}
	// More than the reserve are bad, marked or not: opened anew, what was sealed is read.
	for k, b := range f.row() {
		if b.State == api.SFree {
			c.Mark(k)
		}
	}
	f = opened(t, c)
	pages(t, f)
	if !f.ReadOnly() || f.Write(1, payload(1)) != api.ErrReserve || f.Seal(text(1)) != api.ErrReserve {
		t.Error("it is not read-only")
	}
}

func TestWhatWasDropped(t *testing.T) { // P7.3
	// What was written and dropped ahead of the seal never comes back, and nothing else was sealed for it.
	c, f := formatted(t, 1)
	is(t, "Write", f.Write(7, payload(1)), api.OK)
	is(t, "Drop", f.Drop(7), api.OK)
	is(t, "Seal", f.Seal(text(1)), api.OK)
	none(t, opened(t, c), 7)
	// What was written twice: the first one never was sealed.
	is(t, "Write", f.Write(7, payload(2)), api.OK)
	is(t, "Write", f.Write(7, payload(3)), api.OK)
	is(t, "Seal", f.Seal(text(1)), api.OK)
	is(t, "Write", f.Write(7, payload(4)), api.OK)
	is(t, "Drop", f.Drop(7), api.OK)
	for i := range byte(60) {
		is(t, "Write", f.Write(1+uint32(i%6), payload(i)), api.OK)
		is(t, "Seal", f.Seal(text(i)), api.OK)
		g := opened(t, c)
		if b, e := g.Read(7); e == api.OK && b[0] != 3 {
			t.Fatal("it came back:", b)
		}
		none(t, f, 7)
	}
	// The same, opened anew in between: the chip does not tell which one was sealed.
	c, f = formatted(t, 1)
	is(t, "Write", f.Write(7, payload(2)), api.OK)
	is(t, "Write", f.Write(7, payload(3)), api.OK)
	is(t, "Seal", f.Seal(text(1)), api.OK)
	f = opened(t, c)
	is(t, "Drop", f.Drop(7), api.OK)
	for i := range byte(60) {
		is(t, "Write", f.Write(1+uint32(i%6), payload(i)), api.OK)
		is(t, "Seal", f.Seal(text(i)), api.OK)
		g := opened(t, c)
		if b, e := g.Read(7); e == api.OK && b[0] != 3 {
			t.Fatal("it came back:", b)
		}
	}
}

func TestWhatWasNotSealedIsCleaned(t *testing.T) { // P7.2, P7.5
	c, f := formatted(t, 1)
	for page := uint32(1); page < 6; page++ {
		is(t, "Write", f.Write(page, payload(byte(page))), api.OK)
	}
	is(t, "Seal", f.Seal(text(1)), api.OK)
	for page := uint32(4); page < 9; page++ {
		is(t, "Write", f.Write(page, payload(100+byte(page))), api.OK)
	}
	later := func() int {
		n := 0
		for _, g := range whole(c) {
			if g.Epoch == 3 {
				n++
			}
		}
		return n
	}
	f = opened(t, c)
	strokes := c.Strokes()
	pages(t, f, 1, 2, 3, 4, 5)
	reads(t, f, 4, 4)
	is(t, "Drop", f.Drop(2), api.OK)
	is(t, "Write", f.Write(9, nil), api.ErrArg)
	if later() != 5 || c.Strokes() != strokes {
		t.Error("cleaned ahead of a writing:", later())
	}
	is(t, "Seal", f.Seal(text(2)), api.OK)
	if later() != 0 {
		t.Error("not cleaned:", later())
	}
	f = opened(t, c)
	for page := uint32(3); page < 6; page++ {
		reads(t, f, page, byte(page))
	}
	for page := uint32(6); page < 9; page++ {
		none(t, f, page)
	}
}

func TestALossWhileItIsCleaned(t *testing.T) { // P7.5, P7.6
	// Each block but one holds something: whenever the power goes, and whatever of a block the erasing leaves, there is one to write to.
	geo := api.Geo{Blocks: 8, Pages: 5, Size: 64}
	l := make([][]byte, 40)
	l[0], _ = tag.Write(api.Tag{Kind: api.KSeal, Seq: 1, Epoch: 1}, append([]byte{1, 0, 0, 0, 0, 0, 0, 0}, text(1)...))
	page := uint32(0)
	for k, n := range []int{3, 3, 4, 3, 3, 4, 4} {
		for i := range n {
			if l[5*k+i] == nil {
				page++
				l[5*k+i], _ = tag.Write(api.Tag{Kind: api.KPage, Page: page, Seq: uint64(page + 1), Epoch: 1}, payload(byte(page)))
			}
		}
		if k == 1 || k == 2 {
			l[5*k+n], _ = tag.Write(api.Tag{Kind: api.KPage, Page: 1, Seq: uint64(40 + k), Epoch: 2}, payload(99))
		}
	}
	c, e := nand.Load(geo, l, make([]bool, 8), make([]int, 8))
	is(t, "Load", e, api.OK)
	for at, done := 0, false; !done; at++ {
		for left := range 32 {
			d := c.Copy()
			f := opened(t, d)
			data := []byte{byte(left & 1), byte(left >> 1 & 1), byte(left >> 2 & 1), byte(left >> 3 & 1), byte(left >> 4 & 1)}
			script(t, d, api.Fault{At: at, Kind: api.Within, Data: data})
			if e := f.Write(25, payload(1)); e != api.ErrDown {
				is(t, "Write", e, api.OK)
				done = true
			}
			d.Start()
			f = opened(t, d)
			for i := uint32(1); i <= page; i++ {
				reads(t, f, i, byte(i))
			}
			if f.ReadOnly() {
				t.Error("read-only behind", at, data)
			}
		}
	}
}

func TestTheFirstStaleOneIsErased(t *testing.T) { // P7.3: the words
	// None is free, and a block is to be cleaned in which something is needed.
	made := func() *nand.Chip {
		return crafted().seal(0, 0, 1, 1, 1).page(1, 0, 1, 2, 1, 1).page(1, 1, 1, 9, 2, 2).page(2, 0, 2, 3, 1, 2).page(3, 0, 3, 4, 1, 3).
			page(4, 0, 4, 5, 1, 4).page(6, 0, 4, 3, 1, 9).page(7, 0, 4, 4, 1, 9).mark(5).chip(t)
	}
	c := made()
	f := opened(t, c)
	script(t, c, api.Fault{At: 2, Kind: api.Ahead})
	is(t, "Write", f.Write(9, payload(9)), api.ErrDown)
	c.Start()
	if c.Wear(6) != 1 || c.Wear(7) != 0 || whole(c)[place{6, 0}].Page != 1 {
		t.Error("Wear:", c.Wear(6), c.Wear(7), whole(c))
	}
	// It fails: then less than 0 is left.
	c = made()
	f = opened(t, c)
	script(t, c, failing(0, 1)...)
	is(t, "Write", f.Write(9, payload(9)), api.ErrReserve)
	if !c.Bad(6) || !f.ReadOnly() || c.Strokes() != 1 {
		t.Error("bad, read-only, strokes:", c.Bad(6), f.ReadOnly(), c.Strokes())
	}
	for page := uint32(1); page < 5; page++ {
		reads(t, f, page, byte(page))
	}
}

func TestTheOpenBlockIsErasedLeast(t *testing.T) { // P7.3, P7.7
	// Page 1 is dropped: what may never have been sealed of it stands in the block 2, which may not be erased so far.
	c := crafted().seal(0, 0, 1, 1, 1).page(2, 0, 1, 2, 1, 1).page(2, 1, 2, 3, 1, 2).page(1, 0, 1, 4, 1, 3)
	n, e := nand.Load(eight, c.pages, c.bad, []int{1, 1, 4, 0, 1, 1, 1, 1})
	is(t, "Load", e, api.OK)
	f := opened(t, n)
	is(t, "Write", f.Write(3, payload(3)), api.OK)
	if whole(n)[place{3, 0}].Page != 3 {
		t.Fatal("another block is open:", whole(n))
	}
	is(t, "Drop", f.Drop(1), api.OK)
	is(t, "Seal", f.Seal(text(2)), api.OK)
	gap(t, n)
	if n.Wear(2) != 5 {
		t.Error("Wear:", n.Wear(2))
	}
	f = opened(t, n)
	reads(t, f, 2, 2)
	reads(t, f, 3, 3)
}

func TestOfSeveralErrorsTheFirst(t *testing.T) { // P7.3
	c, f := formatted(t, 1)
	for page := uint32(1); page < 22; page++ {
		is(t, "Write", f.Write(page, payload(byte(page))), api.OK)
	}
	is(t, "Seal", f.Seal(text(1)), api.OK)
	is(t, "Write", f.Write(3, payload(9)), api.ErrFull)
	script(t, c, failing(0, 30)...)
	is(t, "Seal", f.Seal(text(2)), api.ErrReserve)
	is(t, "Write", f.Write(3, payload(9)), api.ErrReserve)
	is(t, "Write of another size", f.Write(3, nil), api.ErrArg)
	is(t, "Drop", f.Drop(3), api.OK)
	none(t, f, 3)
	if !bytes.Equal(f.Text(), text(1)) || f.Used() != 22 {
		t.Error("Text, Used:", f.Text(), f.Used())
	}
	for page := uint32(4); page < 22; page++ {
		reads(t, f, page, byte(page))
	}
}

func TestWornChip(t *testing.T) { // P7.3, P7.6: a chip whose blocks lie far apart goes on as any other one
	n, e := nand.Load(eight, make([][]byte, 32), make([]bool, 8), []int{0, 900, 5, 1 << 40, 7, 0, 33, 1})
	is(t, "Load", e, api.OK)
	f, e := Format(n, 1, text(1))
	is(t, "Format", e, api.OK)
	for i := range 500 {
		is(t, "Write", f.Write(1+uint32(i%9), payload(byte(i))), api.OK)
		is(t, "Write", f.Write(1+uint32(i%9), payload(byte(i))), api.OK)
		is(t, "Drop", f.Drop(1+uint32(i%7)), api.OK)
		is(t, "Seal", f.Seal(text(1)), api.OK)
	}
	if n.Strokes() > 9000 {
		t.Error("strokes:", n.Strokes())
	}
}

func TestSomebodyElse(t *testing.T) { // P1: two on one chip
	ends := func(e api.Errno) {
		t.Helper()
		if e != api.OK && e != api.ErrTorn && e != api.ErrReserve && e != api.ErrFull {
			t.Error("ends with", e)
		}
	}
	c, f := formatted(t, 1)
	for page := uint32(1); page < 8; page++ {
		is(t, "Write", f.Write(page, payload(byte(page))), api.OK)
	}
	for k := range 8 {
		is(t, "Erase", c.Erase(k), api.OK)
	}
	if b, e := f.Read(3); e != api.ErrTorn || b != nil {
		t.Error("Read of what is gone:", b, e)
	}
	for i := range 200 {
		ends(f.Write(1+uint32(i%9), payload(1)))
		ends(f.Seal(text(1)))
	}
	c, f = formatted(t, 1)
	is(t, "Write", f.Write(3, payload(1)), api.OK)
	is(t, "Erase", c.Erase(0), api.OK)
	other, _ := tag.Write(api.Tag{Kind: api.KPage, Page: 4, Seq: 2, Epoch: 2}, payload(1))
	is(t, "Program", c.Program(0, 0, other), api.OK)
	is(t, "Program", c.Program(0, 1, other), api.OK)
	if b, e := f.Read(3); e != api.ErrTorn || b != nil {
		t.Error("Read of another page:", b, e)
	}
	for range 2 { // one of two that know nothing of one another
		g := opened(t, newFormatted(t))
		c = g.chip
		f = opened(t, c)
		for i := range 300 {
			ends(f.Write(1+uint32(i%9), payload(1)))
			ends(g.Write(1+uint32(i%7), payload(1)))
			ends(f.Seal(text(1)))
			ends(g.Seal(text(1)))
			ends(g.Drop(1 + uint32(i%8)))
		}
	}
	for k := range 8 { // blocks are marked behind its back
		c, f = formatted(t, 1)
		is(t, "Mark", c.Mark(k), api.OK)
		for i := range 100 {
			ends(f.Write(1+uint32(i%9), payload(1)))
			ends(f.Seal(text(1)))
		}
	}
}

func newFormatted(t *testing.T) *nand.Chip {
	t.Helper()
	c, _ := formatted(t, 1)
	return c
}
