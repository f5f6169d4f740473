// Package nand is layer 2: a stand-in for a raw NAND chip. Pages are programmed once and in order, blocks are erased whole, and what goes wrong is told ahead by a script.
package nand

import (
	"bytes"
	"cuneiform/api"
	"iter"
	"slices"
)

// Chip is a chip.
type Chip struct {
	geo     api.Geo
	blocks  []block
	up      bool
	faults  []api.Fault
	since   int // strokes since the faults were set
	strokes int
	reads   int
}

// block is a block of a chip. A page's bytes are put there and taken away whole, never changed in place: what was handed over stays as it is.
type block struct {
	pages  [][]byte // an erased one has no bytes
	broken bool
	bad    bool
	wear   int
}

// next is the number of the first page behind all that are programmed. (A block that was loaded, or broken off, may have erased ones among them.)
func (b *block) next() int {
	n := len(b.pages)
	for n > 0 && b.pages[n-1] == nil {
		n--
	}
	return n
}

// Right tells whether a geometry is right.
func Right(g api.Geo) bool {
	switch g.Size {
	case 64, 128, 256, 512:
	default:
		return false
	}
	return g.Blocks >= api.MinBlocks && g.Blocks <= api.MaxBlocks && g.Pages >= api.MinPages && g.Pages <= api.MaxPages
}

// New is a chip that was never erased.
func New(g api.Geo, bad []int) (*Chip, api.Errno) {
	if !Right(g) {
		return nil, api.ErrArg
	}
	c := &Chip{geo: g, blocks: make([]block, g.Blocks), up: true}
	for k := range c.blocks {
		c.blocks[k].pages = make([][]byte, g.Pages)
	}
	for _, k := range bad {
		if k < 0 || k >= g.Blocks {
			return nil, api.ErrArg
		}
		c.blocks[k].bad = true
	}
	return c, api.OK
}

// Load is a chip of pages.
func Load(g api.Geo, pages [][]byte, bad []bool, wear []int) (*Chip, api.Errno) {
	if !loadable(g, pages, bad, wear) {
		return nil, api.ErrArg
	}
	c := &Chip{geo: g, blocks: make([]block, g.Blocks), up: true}
	for k := range c.blocks {
		own := pages[k*g.Pages : (k+1)*g.Pages]
		c.blocks[k] = block{pages: copied(own), bad: bad[k], wear: wear[k]}
	}
	return c, api.OK
}

// loadable tells whether a chip can be made of these.
func loadable(g api.Geo, pages [][]byte, bad []bool, wear []int) bool {
	if !Right(g) || len(pages) != g.Blocks*g.Pages || len(bad) != g.Blocks || len(wear) != g.Blocks {
		return false
	}
	for _, p := range pages {
		if len(p) != 0 && len(p) != g.Size+api.Spare {
			return false
		}
	}
	for _, w := range wear {
		if w < 0 || int64(w) > 1<<40 {
			return false
		}
	}
	return true
}

// copied are pages of their own with the same bytes, those without bytes being erased.
func copied(pages [][]byte) [][]byte {
	own := make([][]byte, len(pages))
	for i, p := range pages {
		if len(p) > 0 {
			own[i] = bytes.Clone(p)
		}
	}
	return own
}

// filled is n bytes, all the same.
func filled(n int, x byte) []byte {
	b := make([]byte, n)
	for i := range b {
		b[i] = x
	}
	return b
}

// width is how many bytes a page is programmed with.
func (c *Chip) width() int {
	return c.geo.Size + api.Spare
}

// block is a block, the chip being up or down (nil, if there is none).
func (c *Chip) block(k int) *block {
	if c == nil || k < 0 || k >= len(c.blocks) {
		return nil
	}
	return &c.blocks[k]
}

// reach is a block of a chip that is up.
func (c *Chip) reach(k int) (*block, api.Errno) {
	if c == nil {
		return nil, api.ErrNil
	}
	if !c.up {
		return nil, api.ErrDown
	}
	b := c.block(k)
	if b == nil {
		return nil, api.ErrPlace
	}
	return b, api.OK
}

// reachPage is a block of a chip that is up, which has such a page.
func (c *Chip) reachPage(k, page int) (*block, api.Errno) {
	b, e := c.reach(k)
	if e != api.OK {
		return nil, e
	}
	if page < 0 || page >= len(b.pages) {
		return nil, api.ErrPlace
	}
	return b, api.OK
}

// Geo is the geometry.
func (c *Chip) Geo() api.Geo {
	if c == nil {
		return api.Geo{}
	}
	return c.geo
}

// Read is what is read of a page.
func (c *Chip) Read(k, page int) ([]byte, api.Errno) {
	b, e := c.reachPage(k, page)
	if e != api.OK {
		return nil, e
	}
	c.reads++
	if b.pages[page] == nil {
		return filled(c.width(), 255), api.OK
	}
	return bytes.Clone(b.pages[page]), api.OK
}

// Mark marks a block as bad.
func (c *Chip) Mark(k int) api.Errno {
	b, e := c.reach(k)
	if e != api.OK {
		return e
	}
	b.bad = true
	return api.OK
}

// Bad tells whether a block is bad.
func (c *Chip) Bad(k int) bool {
	b := c.block(k)
	return b == nil || b.bad
}

// Wear is how often a block was erased.
func (c *Chip) Wear(k int) int {
	b := c.block(k)
	if b == nil {
		return 0
	}
	return b.wear
}

// Pages are a block's pages that are programmed.
func (c *Chip) Pages(k int) iter.Seq2[int, []byte] {
	var pages [][]byte
	if b, e := c.reach(k); e == api.OK {
		// They are those of now: what is done with the chip before they are asked for plays no part.
		pages = slices.Clone(b.pages)
	}
	return func(yield func(int, []byte) bool) {
		for i, p := range pages {
			if p != nil && !yield(i, bytes.Clone(p)) {
				return
			}
		}
	}
}

// Up tells whether the chip is up.
func (c *Chip) Up() bool {
	return c != nil && c.up
}

// Lose loses the power.
func (c *Chip) Lose() {
	if c != nil {
		c.up = false
	}
}

// Start starts it.
func (c *Chip) Start() {
	if c != nil {
		c.up = true
	}
}

// Strokes is how many strokes there were.
func (c *Chip) Strokes() int {
	if c == nil {
		return 0
	}
	return c.strokes
}

// Reads is how many reads there were.
func (c *Chip) Reads() int {
	if c == nil {
		return 0
	}
	return c.reads
}

// Copy is a chip of its own.
func (c *Chip) Copy() *Chip {
	if c == nil {
		return nil
	}
	d := *c
	d.faults = c.kept(c.faults)
	d.blocks = slices.Clone(c.blocks)
	for k := range d.blocks {
		d.blocks[k].pages = copied(c.blocks[k].pages)
	}
	return &d
}

// Dump are the chip's pages, which blocks are bad, and how often each was erased.
func (c *Chip) Dump() ([][]byte, []bool, []int) {
	if c == nil {
		return nil, nil, nil
	}
	var pages [][]byte
	var bad []bool
	var wear []int
	for _, b := range c.blocks {
		pages = append(pages, copied(b.pages)...)
		bad = append(bad, b.bad)
		wear = append(wear, b.wear)
	}
	return pages, bad, wear
}
