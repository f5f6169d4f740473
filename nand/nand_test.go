package nand

import (
	"bytes"
	"math"
	"slices"
	"testing"

	"cuneiform/api"
)

var small = geo(8, 4, 64)

// geo is a geometry.
func geo(blocks, pages, size int) api.Geo {
	return api.Geo{Blocks: blocks, Pages: pages, Size: size}
}

const width = 64 + 32

// fresh is a chip of the small geometry.
func fresh(t *testing.T, bad ...int) *Chip {
	t.Helper()
	c, e := New(small, bad)
	if e != api.OK || c == nil {
		t.Fatal("New:", e)
	}
	return c
}

// page is a page's bytes, all x.
func page(x byte) []byte {
	return bytes.Repeat([]byte{x}, width)
}

// is fails the test, if an answer is another one than asked for.
func is(t *testing.T, what string, got, want api.Errno) {
	t.Helper()
	if got != want {
		t.Errorf("%s: %d, not %d", what, got, want)
	}
}

// reads fails the test, if other bytes than these are read of a page.
func reads(t *testing.T, c *Chip, k, n int, want []byte) {
	t.Helper()
	if got, e := c.Read(k, n); e != api.OK || !bytes.Equal(got, want) {
		t.Errorf("Read(%d, %d): %v, %d, not %v", k, n, got, e, want)
	}
}

// numbers are the pages that Pages hands over, and fails the test, if their bytes are not those that are read.
func numbers(t *testing.T, c *Chip, k int) []int {
	t.Helper()
	var l []int
	for i, b := range c.Pages(k) {
		l = append(l, i)
		reads(t, c, k, i, b)
	}
	return l
}

func TestRight(t *testing.T) { // P2.1
	for _, g := range []api.Geo{small, geo(128, 32, 512), geo(8, 32, 128), geo(128, 4, 256), geo(9, 5, 64), geo(127, 31, 512)} {
		if !Right(g) {
			t.Errorf("%v is not right", g)
		}
		if c, e := New(g, nil); c == nil || e != api.OK || c.Geo() != g {
			t.Errorf("New of %v: %d", g, e)
		}
	}
	for _, g := range wrongs() {
		if Right(g) {
			t.Errorf("%v is right", g)
		}
		if c, e := New(g, nil); c != nil || e != api.ErrArg {
			t.Errorf("New of %v: %d", g, e)
		}
	}
}

// wrongs are geometries that are not right.
func wrongs() []api.Geo {
	l := []api.Geo{{}, geo(7, 4, 64), geo(129, 4, 64), geo(8, 3, 64), geo(8, 33, 64), geo(-8, 4, 64), geo(8, -4, 64), geo(0, 4, 64), geo(8, 0, 64)}
	for _, size := range []int{0, 1, 63, 65, 96, 127, 129, 192, 255, 257, 320, 384, 511, 513, 1024, 32, -64, math.MaxInt, math.MinInt} {
		l = append(l, geo(8, 4, size))
	}
	for _, n := range []int{math.MaxInt, math.MinInt} {
		l = append(l, geo(n, 4, 64), geo(8, n, 64))
	}
	return l
}

func TestNew(t *testing.T) { // P2.1
	bad := []int{3, 0, 7, 3}
	c := fresh(t, bad...)
	if !slices.Equal(bad, []int{3, 0, 7, 3}) {
		t.Error("New changed what it was handed")
	}
	bad[0] = 1
	if !c.Up() || c.Strokes() != 0 || c.Reads() != 0 {
		t.Error("a new chip is up, without strokes and reads")
	}
	for k := range 8 {
		if c.Bad(k) != (k == 0 || k == 3 || k == 7) {
			t.Errorf("Bad(%d): %v", k, c.Bad(k))
		}
		if c.Wear(k) != 0 {
			t.Errorf("Wear(%d): %d", k, c.Wear(k))
		}
		if l := numbers(t, c, k); len(l) != 0 {
			t.Errorf("Pages(%d): %v", k, l)
		}
		for i := range 4 {
			reads(t, c, k, i, page(255))
		}
	}
	for k := range 8 {
		if !c.Bad(k) {
			is(t, "Program of a new block", c.Program(k, 0, page(1)), api.OK)
		}
	}
	for _, bad := range [][]int{{-1}, {8}, {0, 1, 8}, {math.MaxInt}, {math.MinInt}} {
		if c, e := New(small, bad); c != nil || e != api.ErrArg {
			t.Errorf("New with %v bad: %d", bad, e)
		}
	}
	if c, e := New(geo(128, 4, 64), []int{127}); e != api.OK || !c.Bad(127) {
		t.Error("New with the last block bad:", e)
	}
}

// parts are what a chip of the small geometry is loaded of: no page programmed, no block bad.
func parts() ([][]byte, []bool, []int) {
	return make([][]byte, 32), make([]bool, 8), make([]int, 8)
}

func TestLoad(t *testing.T) { // P2.1
	pages, bad, wear := parts()
	pages[0], pages[2], pages[4], pages[5], pages[31] = page(1), page(2), []byte{}, page(255), page(3)
	bad[6], wear[0], wear[7] = true, 5, 1<<40
	c, e := Load(small, pages, bad, wear)
	if e != api.OK {
		t.Fatal("Load:", e)
	}
	pages[0][0], bad[0], wear[1] = 9, true, 9
	pages[1] = page(9)
	if !c.Up() || c.Strokes() != 0 || c.Reads() != 0 || c.Geo() != small {
		t.Error("a loaded chip is up, without strokes and reads, of its geometry")
	}
	for k, want := range [][]int{{0, 2}, {1}, nil, nil, nil, nil, nil, {3}} {
		if l := numbers(t, c, k); !slices.Equal(l, want) {
			t.Errorf("Pages(%d): %v, not %v", k, l, want)
		}
		if c.Bad(k) != (k == 6) {
			t.Errorf("Bad(%d): %v", k, c.Bad(k))
		}
	}
	for i, want := range []byte{1, 255, 2, 255, 255, 255} {
		reads(t, c, i/4, i%4, page(want))
	}
	reads(t, c, 7, 3, page(3))
	if c.Wear(0) != 5 || c.Wear(1) != 0 || c.Wear(7) != 1<<40 {
		t.Error("Wear:", c.Wear(0), c.Wear(1), c.Wear(7))
	}
	// The next page is the one behind all that are programmed, also where one among them is erased.
	is(t, "Program of a page ahead of the next one", c.Program(0, 1, page(7)), api.ErrOrder)
	is(t, "Program of the next page", c.Program(0, 3, page(7)), api.OK)
	is(t, "Program ahead of a page of bytes 255", c.Program(1, 0, page(7)), api.ErrOrder)
	is(t, "Program behind a page of bytes 255", c.Program(1, 2, page(7)), api.OK)
	is(t, "Program of a block without a next page", c.Program(7, 0, page(7)), api.ErrOrder)
	is(t, "Program of a bad block", c.Program(6, 0, page(7)), api.ErrBad)
	is(t, "Erase", c.Erase(7), api.OK)
	if c.Wear(7) != 1<<40+1 {
		t.Error("Wear of what was loaded and erased:", c.Wear(7))
	}
}

func TestLoadOfWhatMayNotBe(t *testing.T) { // P2.1
	for _, g := range wrongs() {
		pages, bad, wear := parts()
		if c, e := Load(g, pages, bad, wear); c != nil || e != api.ErrArg {
			t.Errorf("Load of %v: %d", g, e)
		}
	}
	load := func(what string, want api.Errno, change func(pages *[][]byte, bad *[]bool, wear *[]int)) {
		t.Helper()
		pages, bad, wear := parts()
		change(&pages, &bad, &wear)
		c, e := Load(small, pages, bad, wear)
		if e != want || (c == nil) != (e != api.OK) {
			t.Errorf("%s: %d, not %d", what, e, want)
		}
	}
	load("nothing changed", api.OK, func(p *[][]byte, b *[]bool, w *[]int) {})
	load("a page less", api.ErrArg, func(p *[][]byte, b *[]bool, w *[]int) { *p = (*p)[1:] })
	load("a page more", api.ErrArg, func(p *[][]byte, b *[]bool, w *[]int) { *p = append(*p, nil) })
	load("no page", api.ErrArg, func(p *[][]byte, b *[]bool, w *[]int) { *p = nil })
	load("a bad less", api.ErrArg, func(p *[][]byte, b *[]bool, w *[]int) { *b = (*b)[1:] })
	load("a bad more", api.ErrArg, func(p *[][]byte, b *[]bool, w *[]int) { *b = append(*b, false) })
	load("a wear less", api.ErrArg, func(p *[][]byte, b *[]bool, w *[]int) { *w = (*w)[1:] })
	load("a wear more", api.ErrArg, func(p *[][]byte, b *[]bool, w *[]int) { *w = append(*w, 0) })
	for n, want := range map[int]api.Errno{0: api.OK, width: api.OK, width - 1: api.ErrArg, width + 1: api.ErrArg, 1: api.ErrArg, 64: api.ErrArg, 128 + 32: api.ErrArg} {
		for _, at := range []int{0, 31} {
			load("a page's bytes", want, func(p *[][]byte, b *[]bool, w *[]int) { (*p)[at] = make([]byte, n) })
		}
	}
	for n, want := range map[int]api.Errno{0: api.OK, 1 << 40: api.OK, -1: api.ErrArg, 1<<40 + 1: api.ErrArg, math.MaxInt: api.ErrArg, math.MinInt: api.ErrArg} {
		for _, at := range []int{0, 7} {
			load("a wear", want, func(p *[][]byte, b *[]bool, w *[]int) { (*w)[at] = n })
		}
	}
}

func TestRead(t *testing.T) { // P2.2
	c := fresh(t, 2)
	is(t, "Program", c.Program(1, 0, page(5)), api.OK)
	reads(t, c, 1, 0, page(5))
	reads(t, c, 1, 1, page(255))
	reads(t, c, 2, 3, page(255))
	if c.Reads() != 3 {
		t.Error("Reads:", c.Reads())
	}
	for _, n := range []int{0, 1} { // a programmed page and an erased one: what is read is new
		b, _ := c.Read(1, n)
		clear(b)
	}
	reads(t, c, 1, 0, page(5))
	reads(t, c, 1, 1, page(255))
	was := c.Reads()
	for _, at := range [][2]int{{-1, 0}, {8, 0}, {0, -1}, {0, 4}, {math.MaxInt, math.MaxInt}, {math.MinInt, math.MinInt}, {0, 32}, {1, -4}} {
		if b, e := c.Read(at[0], at[1]); e != api.ErrPlace || len(b) != 0 {
			t.Errorf("Read(%v): %v, %d", at, b, e)
		}
	}
	c.Lose()
	for _, at := range [][2]int{{1, 0}, {9, 9}} {
		if b, e := c.Read(at[0], at[1]); e != api.ErrDown || len(b) != 0 {
			t.Errorf("Read(%v) of a chip that is down: %v, %d", at, b, e)
		}
	}
	if c.Reads() != was {
		t.Error("a Read that was refused was counted")
	}
}

func TestMarkBadWear(t *testing.T) { // P2.3
	c := fresh(t)
	is(t, "Program", c.Program(4, 0, page(6)), api.OK)
	is(t, "Erase", c.Erase(5), api.OK)
	for _, k := range []int{4, 4, 0, 7} {
		is(t, "Mark", c.Mark(k), api.OK)
	}
	for k := range 8 {
		if c.Bad(k) != (k == 0 || k == 4 || k == 7) {
			t.Errorf("Bad(%d): %v", k, c.Bad(k))
		}
	}
	reads(t, c, 4, 0, page(6))
	if l := numbers(t, c, 4); !slices.Equal(l, []int{0}) {
		t.Error("Pages of a bad block:", l)
	}
	if c.Wear(5) != 1 || c.Wear(4) != 0 {
		t.Error("Wear:", c.Wear(5), c.Wear(4))
	}
	for _, k := range []int{-1, 8, math.MaxInt, math.MinInt} {
		is(t, "Mark of no block", c.Mark(k), api.ErrPlace)
		if !c.Bad(k) || c.Wear(k) != 0 {
			t.Errorf("of no block: Bad %v, Wear %d", c.Bad(k), c.Wear(k))
		}
	}
	if c.Strokes() != 2 {
		t.Error("a Mark was counted:", c.Strokes())
	}
	c.Lose()
	is(t, "Mark of a chip that is down", c.Mark(1), api.ErrDown)
	is(t, "Mark of no block of a chip that is down", c.Mark(-1), api.ErrDown)
	if !c.Bad(4) || c.Bad(1) || c.Wear(5) != 1 {
		t.Error("Bad and Wear of a chip that is down:", c.Bad(4), c.Bad(1), c.Wear(5))
	}
}

func TestPages(t *testing.T) { // P2.3
	c := fresh(t)
	for i := range 3 {
		is(t, "Program", c.Program(7, i, page(byte(i))), api.OK)
	}
	l := c.Pages(7)
	for range 2 { // as often as it is ranged over, with new bytes each time
		n := 0
		for i, b := range l {
			if i != n || !bytes.Equal(b, page(byte(i))) {
				t.Errorf("Pages: %d, %v at %d", i, b, n)
			}
			clear(b)
			b[0] = 99
			n++
		}
		if n != 3 {
			t.Error("Pages hands over", n)
		}
	}
	for i := range l {
		if i == 1 {
			break
		}
	}
	if c.Reads() != 0 || c.Strokes() != 3 {
		t.Error("Pages were counted:", c.Reads(), c.Strokes())
	}
	for i := range 3 {
		reads(t, c, 7, i, page(byte(i)))
	}
	for _, k := range []int{-1, 8, math.MaxInt, math.MinInt, 6} {
		for i := range c.Pages(k) {
			t.Errorf("Pages(%d) hands over %d", k, i)
		}
	}
	c.Lose()
	for i := range c.Pages(7) {
		t.Error("Pages of a chip that is down hands over", i)
	}
	c.Start()
	if l := numbers(t, c, 7); !slices.Equal(l, []int{0, 1, 2}) {
		t.Error("Pages of a chip that was started:", l)
	}
}

func TestPagesAreThoseOfTheCall(t *testing.T) { // rule 3: no part of an answer is shared
	c := fresh(t)
	is(t, "Program", c.Program(0, 0, page(1)), api.OK)
	l := c.Pages(0)
	is(t, "Program", c.Program(0, 1, page(2)), api.OK)
	is(t, "Erase", c.Erase(0), api.OK)
	is(t, "Program", c.Program(0, 0, page(3)), api.OK)
	c.Lose()
	n := 0
	for i, b := range l {
		if i != 0 || !bytes.Equal(b, page(1)) {
			t.Error("Pages:", i, b)
		}
		n++
	}
	if n != 1 {
		t.Error("Pages hands over", n)
	}
}

func TestLoseAndStart(t *testing.T) { // P2.4
	c := fresh(t)
	is(t, "Program", c.Program(0, 0, page(1)), api.OK)
	c.Lose()
	c.Lose()
	if c.Up() || c.Strokes() != 1 || c.Geo() != small {
		t.Error("a chip that is down:", c.Up(), c.Strokes(), c.Geo())
	}
	c.Start()
	c.Start()
	if !c.Up() {
		t.Error("a chip that was started is down")
	}
	reads(t, c, 0, 0, page(1))
}

func TestCopy(t *testing.T) { // P2.4
	c := fresh(t, 6)
	is(t, "Program", c.Program(0, 0, page(1)), api.OK)
	is(t, "Erase", c.Erase(1), api.OK)
	reads(t, c, 0, 0, page(1))
	d := c.Copy()
	is(t, "Program", d.Program(0, 1, page(2)), api.OK)
	is(t, "Erase", d.Erase(0), api.OK)
	is(t, "Mark", d.Mark(3), api.OK)
	is(t, "Script", d.Script([]api.Fault{{At: 0, Kind: api.Failed}}), api.OK)
	d.Lose()
	if !c.Up() || c.Strokes() != 2 || c.Reads() != 1 || c.Bad(3) || !c.Bad(6) || c.Wear(0) != 0 || c.Wear(1) != 1 {
		t.Error("a copy's doings are the chip's")
	}
	if l := numbers(t, c, 0); !slices.Equal(l, []int{0}) {
		t.Error("Pages:", l)
	}
	is(t, "Program of the chip that was copied", c.Program(0, 1, page(3)), api.OK)
	e := c.Copy()
	if e.Geo() != small || !e.Up() || e.Strokes() != 3 || e.Reads() != c.Reads() || !e.Bad(6) || e.Wear(1) != 1 {
		t.Error("a copy is another chip")
	}
	reads(t, e, 0, 0, page(1))
	reads(t, e, 0, 1, page(3))
	is(t, "Erase", c.Erase(0), api.OK)
	reads(t, e, 0, 1, page(3))
	c.Lose()
	if !e.Up() || c.Copy().Up() {
		t.Error("Up of a copy")
	}
}

func TestDump(t *testing.T) { // P2.4, P2.9
	c := fresh(t, 2)
	for i := range 3 {
		is(t, "Program", c.Program(1, i, page(byte(i+1))), api.OK)
	}
	is(t, "Program of bytes 255", c.Program(3, 0, page(255)), api.OK)
	is(t, "Erase", c.Erase(7), api.OK)
	is(t, "Mark", c.Mark(1), api.OK)
	c.Lose()
	pages, bad, wear := c.Dump()
	c.Start()
	if len(pages) != 32 || len(bad) != 8 || len(wear) != 8 {
		t.Fatal("Dump:", len(pages), len(bad), len(wear))
	}
	for i, p := range pages {
		want := []byte(nil)
		switch i {
		case 4, 5, 6:
			want = page(byte(i - 3))
		case 12:
			want = page(255)
		}
		if !bytes.Equal(p, want) {
			t.Errorf("Dump: the page %d is %v", i, p)
		}
	}
	for k := range 8 {
		if bad[k] != (k == 1 || k == 2) || wear[k] != k/7 {
			t.Errorf("Dump: the block %d: %v, %d", k, bad[k], wear[k])
		}
	}
	d, e := Load(c.Geo(), pages, bad, wear)
	if e != api.OK {
		t.Fatal("Load of what was dumped:", e)
	}
	same(t, c, d)
	pages[4][0], bad[5], wear[5] = 77, true, 77
	same(t, c, d)
	reads(t, c, 1, 0, page(1))
	if c.Bad(5) || c.Wear(5) != 0 {
		t.Error("what was dumped is the chip's")
	}
}

// same fails the test, if what two chips tell of their pages and blocks is not the same.
func same(t *testing.T, c, d *Chip) {
	t.Helper()
	if c.Geo() != d.Geo() || c.Up() != d.Up() {
		t.Fatal("not the same geometry, or one is down")
	}
	for k := range c.Geo().Blocks {
		if c.Bad(k) != d.Bad(k) || c.Wear(k) != d.Wear(k) {
			t.Fatalf("the block %d: %v, %d; %v, %d", k, c.Bad(k), c.Wear(k), d.Bad(k), d.Wear(k))
		}
		if l, m := numbers(t, c, k), numbers(t, d, k); !slices.Equal(l, m) {
			t.Fatalf("Pages(%d): %v, %v", k, l, m)
		}
		for i := range c.Geo().Pages {
			b, e := c.Read(k, i)
			if x, f := d.Read(k, i); e != f || !bytes.Equal(b, x) {
				t.Fatalf("Read(%d, %d): %v, %d; %v, %d", k, i, b, e, x, f)
			}
		}
	}
}

func TestNil(t *testing.T) { // P1, P2.2, P2.3, P2.4
	var c *Chip
	for _, k := range []int{0, -1, math.MaxInt} {
		if b, e := c.Read(k, k); len(b) != 0 || e != api.ErrNil {
			t.Error("Read:", b, e)
		}
		is(t, "Program", c.Program(k, k, nil), api.ErrNil)
		is(t, "Erase", c.Erase(k), api.ErrNil)
		is(t, "Mark", c.Mark(k), api.ErrNil)
		if !c.Bad(k) || c.Wear(k) != 0 {
			t.Error("Bad, Wear:", c.Bad(k), c.Wear(k))
		}
		for range c.Pages(k) {
			t.Error("Pages of nil")
		}
	}
	is(t, "Script", c.Script(nil), api.ErrNil)
	is(t, "Script", c.Script([]api.Fault{{At: -1}}), api.ErrNil)
	c.Lose()
	c.Start()
	if c.Up() || c.Strokes() != 0 || c.Reads() != 0 || c.Geo() != (api.Geo{}) || c.Copy() != nil {
		t.Error("nil tells something")
	}
	if pages, bad, wear := c.Dump(); len(pages)+len(bad)+len(wear) != 0 {
		t.Error("Dump:", pages, bad, wear)
	}
}

func TestChipThatNobodyMade(t *testing.T) { // P1
	c := &Chip{}
	is(t, "Erase of a chip that is down", c.Erase(0), api.ErrDown)
	c.Start()
	c = c.Copy()
	for _, k := range []int{0, -1, math.MaxInt, math.MinInt} {
		if _, e := c.Read(k, k); e != api.ErrPlace {
			t.Error("Read:", e)
		}
		is(t, "Program", c.Program(k, k, make([]byte, 32)), api.ErrPlace)
		is(t, "Erase", c.Erase(k), api.ErrPlace)
		is(t, "Mark", c.Mark(k), api.ErrPlace)
		for range c.Pages(k) {
			t.Error("Pages of no block")
		}
	}
	is(t, "Script", c.Script([]api.Fault{{Kind: api.Within, Data: make([]byte, 50)}}), api.OK)
	if pages, bad, wear := c.Dump(); len(pages)+len(bad)+len(wear) != 0 {
		t.Error("Dump:", pages, bad, wear)
	}
}
