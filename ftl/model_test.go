package ftl

import (
	"maps"
	"math/rand"
	"slices"
	"testing"

	"cuneiform/api"
	"cuneiform/nand"
	"cuneiform/tag"
)

// held is what a chip holds, as the document tells it, read from what was dumped, as plainly as can be.
type held struct {
	is       bool
	pages    map[uint32]string
	text     string
	capacity int
	readOnly bool
}

// standing is a page of the chip that is some.
type standing struct {
	block   int
	t       api.Tag
	payload string
}

// holds reads a chip.
func holds(c *nand.Chip) held {
	g := c.Geo()
	pages, bad, _ := c.Dump()
	var l []standing
	var last uint64
	for i, b := range pages {
		t, p, e := tag.Read(b)
		if bad[i/g.Pages] || e != api.OK || (t.Kind == api.KPage) != (t.Page > 0) {
			continue
		}
		if t.Seq > 1<<61 || t.Epoch > 1<<61 {
			return held{}
		}
		l = append(l, standing{i / g.Pages, t, string(p)})
		if t.Kind == api.KSeal && t.Epoch > last {
			last = t.Epoch
		}
	}
	if last == 0 {
		return held{}
	}
	l = slices.DeleteFunc(l, func(s standing) bool {
		return s.t.Epoch > last || s.t.Kind == api.KSeal && s.t.Epoch < last
	})
	all := slices.Clone(l)
	l = slices.DeleteFunc(l, func(s standing) bool {
		return slices.ContainsFunc(all, func(o standing) bool { return o.t.Page == s.t.Page && o.t.Seq > s.t.Seq })
	})
	in := map[int]int{}
	for _, s := range l {
		in[s.block]++
	}
	best := map[uint32]standing{}
	for _, s := range l {
		if o, ok := best[s.t.Page]; !ok || in[s.block] > in[o.block] {
			best[s.t.Page] = s
		}
	}
	p := best[0].payload
	reserve, atFirst := int(p[0])+256*int(p[1]), int(p[2])+256*int(p[3])
	now := 0
	for _, b := range bad {
		if b {
			now++
		}
	}
	data := g.Blocks - reserve - atFirst - 1
	if reserve == 0 || p[4:8] != "\x00\x00\x00\x00" || now < atFirst || data < 2 {
		return held{}
	}
	h := held{is: true, pages: map[uint32]string{}, text: p[8:], capacity: data*g.Pages - 2}
	with := map[int]bool{}
	for page, s := range best {
		if int(page) < h.capacity {
			with[s.block] = true
			if page > 0 {
				h.pages[page] = s.payload
			}
		}
	}
	h.readOnly = now-atFirst > reserve || len(with) == g.Blocks-now
	return h
}

// sameAs fails the test, if a translation tells something else than a chip holds.
func (h held) sameAs(t *testing.T, c *nand.Chip) *FTL {
	t.Helper()
	strokes, reads := c.Strokes(), c.Reads()
	f, e := Open(c)
	g := c.Geo()
	if c.Strokes() != strokes || c.Reads() > reads+2*g.Blocks*g.Pages {
		t.Fatal("Open: strokes, reads:", c.Strokes()-strokes, c.Reads()-reads)
	}
	if !h.is {
		if e != api.ErrCorrupt || f != nil {
			t.Fatal("Open of what holds nothing:", e)
		}
		return nil
	}
	if e != api.OK {
		t.Fatal("Open:", e)
	}
	if f.Capacity() != h.capacity || f.ReadOnly() != h.readOnly || string(f.Text()) != h.text || f.Used() != len(h.pages)+1 {
		t.Fatal("Capacity, ReadOnly, Used:", f.Capacity(), f.ReadOnly(), f.Used(), "not", h.capacity, h.readOnly, len(h.pages)+1)
	}
	reading(t, f, h.pages)
	return f
}

// reading fails the test, if other pages are there now.
func reading(t *testing.T, f *FTL, want map[uint32]string) {
	t.Helper()
	if got := slices.Collect(f.Pages()); !slices.Equal(got, slices.Sorted(maps.Keys(want))) {
		t.Fatal("Pages:", got, "not", slices.Sorted(maps.Keys(want)))
	}
	for page := uint32(1); int(page) < f.Capacity(); page++ {
		b, e := f.Read(page)
		p, ok := want[page]
		if ok && (e != api.OK || string(b) != p) || !ok && (e != api.ErrNoEntry || b != nil) {
			t.Fatal("Read of", page, e, b, "not", []byte(p))
		}
	}
}

// counted fails the test, if the blocks in hand are not those that hold what is needed.
func counted(t *testing.T, f *FTL) {
	t.Helper()
	live := make([]int, f.chip.Geo().Blocks)
	for _, at := range f.sealed {
		live[at.block]++
	}
	for _, at := range f.written {
		live[at.block]++
	}
	for k, b := range f.blocks.All() {
		if b.Live != live[k] {
			t.Fatal("block", k, "live", b.Live, "not", live[k])
		}
	}
}

// player plays with a translation, and knows what it has to hold.
type player struct {
	t       *testing.T
	r       *rand.Rand
	c       *nand.Chip
	f       *FTL
	spare   int // how many blocks may be bad in all
	sealed  map[uint32]string
	now     map[uint32]string
	written map[uint32]bool
	ever    map[uint32]map[string]bool // what was once sealed
	text    string
	toBe    string // the text that is being sealed
	seen    map[api.Tag]string
}

// game is how it is played: which numbers are in use (0: all); how many of ten steps drop; and of how many steps one has a loss of power, a failure, and is behind an Open (0: none).
type game struct {
	steps, few, drops, loss, fail, reopen int
}

func begin(t *testing.T, r *rand.Rand, g api.Geo, reserve int, bad []int) *player {
	t.Helper()
	c, e := nand.New(g, bad)
	if e != api.OK {
		t.Fatal("New:", e)
	}
	p := &player{t: t, r: r, c: c, spare: reserve + len(bad), sealed: map[uint32]string{}, now: map[uint32]string{}, written: map[uint32]bool{}, ever: map[uint32]map[string]bool{}, seen: map[api.Tag]string{}}
	p.text = string(p.bytes(g.Size - 8))
	p.f, e = Format(c, reserve, []byte(p.text))
	if e != api.OK {
		t.Fatal("Format:", e)
	}
	return p
}

func (p *player) bytes(n int) []byte {
	b := make([]byte, n)
	p.r.Read(b)
	return b
}

func (p *player) one(of int) bool { return of > 0 && p.r.Intn(of) == 0 }

func (p *player) used() int { return len(p.sealed) + 1 + len(p.written) }

// left is how many blocks may still go bad.
func (p *player) left() int {
	n := p.spare
	for k := range p.c.Geo().Blocks {
		if p.c.Bad(k) {
			n--
		}
	}
	return n
}

// well fails the test, if an error is none that may come, and tells whether there is none.
func (p *player) well(e api.Errno, what string, full bool) bool {
	p.t.Helper()
	switch {
	case e == api.OK && !full:
		return true
	case e == api.ErrFull && full, e == api.ErrDown && !p.c.Up(), e == api.ErrReserve && p.left() <= 0:
	default:
		p.t.Fatal(what, e, "full:", full, "used:", p.used(), "left:", p.left())
	}
	return false
}

func (p *player) write(page uint32) {
	p.t.Helper()
	b := p.bytes(p.c.Geo().Size)
	full := !p.written[page] && p.used() >= p.f.Capacity()
	if p.well(p.f.Write(page, b), "Write", full) {
		p.now[page], p.written[page] = string(b), true
	}
}

func (p *player) drop(page uint32) {
	p.t.Helper()
	is(p.t, "Drop", p.f.Drop(page), api.OK)
	delete(p.now, page)
	delete(p.written, page)
}

func (p *player) seal() {
	p.t.Helper()
	b := p.bytes(p.c.Geo().Size - 8)
	p.toBe = string(b)
	if p.well(p.f.Seal(b), "Seal", false) {
		p.isSealed()
	}
}

func (p *player) isSealed() {
	p.sealed, p.text = maps.Clone(p.now), p.toBe
	clear(p.written)
	for page, b := range p.sealed {
		if p.ever[page] == nil {
			p.ever[page] = map[string]bool{}
		}
		p.ever[page][b] = true
	}
}

// opens takes the chip up again, and fails the test, if it has not what was sealed last (or was being sealed).
func (p *player) opens(sealing bool) {
	p.t.Helper()
	p.c.Start()
	h := holds(p.c)
	p.f = h.sameAs(p.t, p.c)
	h.sameAs(p.t, p.c.Copy())
	if sealing && h.text == p.toBe {
		p.isSealed()
	}
	if h.text != p.text {
		p.t.Fatal("another text")
	}
	for page, b := range p.sealed {
		if h.pages[page] != b {
			p.t.Fatal("the page", page, "is not what was sealed")
		}
	}
	for page, b := range h.pages {
		if _, ok := p.sealed[page]; !ok && !p.ever[page][b] {
			p.t.Fatal("the page", page, "came back with bytes that were never sealed")
		}
	}
	p.sealed, p.now = maps.Clone(h.pages), maps.Clone(h.pages)
	clear(p.written)
	clear(p.seen) // what was not there when the power went may be written otherwise
	if h.readOnly && p.left() > 0 {
		p.t.Fatal("opened read-only with", p.left(), "left")
	}
}

// worn is how often all blocks were erased.
func (p *player) worn() int {
	n := 0
	for k := range p.c.Geo().Blocks {
		n += p.c.Wear(k)
	}
	return n
}

// torn are a fault's data: nothing that is valid, often what stays and what is erased.
func (p *player) torn() []byte {
	b := p.bytes(p.r.Intn(40))
	for i := range b {
		b[i] %= byte(2 + p.r.Intn(2))
	}
	return b
}

// faults sets what goes wrong next.
func (p *player) faults(g game) {
	var l []api.Fault
	if p.one(g.loss) {
		l = append(l, api.Fault{At: p.r.Intn(4) * p.r.Intn(8), Kind: api.Ahead + p.r.Intn(2), Data: p.torn()})
	}
	if p.one(g.fail) {
		l = append(l, api.Fault{At: p.r.Intn(4), Kind: api.Failed, Data: p.torn()})
	}
	if l != nil {
		p.c.Script(l)
	}
}

// play plays until the steps are done, or the reserve is.
func (p *player) play(g game) {
	p.t.Helper()
	for range g.steps {
		p.faults(g)
		strokes, reads, wear := p.c.Strokes(), p.c.Reads(), p.worn()
		n := p.f.Capacity() - 1
		if g.few > 0 {
			n = min(n, g.few)
		}
		page, sealing := uint32(1+p.r.Intn(n)), false
		switch x := p.r.Intn(10); {
		case x < g.drops:
			p.drop(page)
		case x < 8:
			p.write(page)
		case p.one(g.reopen):
			p.opens(false)
		default:
			sealing = true
			p.seal()
		}
		if !p.c.Up() {
			p.opens(sealing)
		}
		copies := p.c.Strokes() - strokes - (p.worn() - wear) - 1
		if g.loss+g.fail == 0 && p.c.Reads()-reads < 2*copies {
			p.t.Fatal("copies:", copies, "reads:", p.c.Reads()-reads)
		}
		if p.f.Used() != p.used() {
			p.t.Fatal("Used:", p.f.Used(), "not", p.used())
		}
		counted(p.t, p.f)
		if g.loss == 0 {
			gap(p.t, p.c)
			p.chip()
		}
		if p.f.ReadOnly() {
			break
		}
	}
	reading(p.t, p.f, p.now)
}

// chip fails the test, if less blocks are free than there are to be, or two pages of the chip have one Seq and are not alike.
func (p *player) chip() {
	p.t.Helper()
	g := p.c.Geo()
	free := 0
	for k := range g.Blocks {
		programmed := 0
		for _, b := range p.c.Pages(k) {
			programmed++
			t, _, e := tag.Read(b)
			if e != api.OK || p.c.Bad(k) {
				continue
			}
			seq := api.Tag{Seq: t.Seq}
			if was, ok := p.seen[seq]; ok && was != string(b) {
				p.t.Fatal("one Seq, and other bytes:", t)
			}
			p.seen[seq] = string(b)
		}
		if programmed == 0 && !p.c.Bad(k) {
			free++
		}
	}
	if free < p.left()+1 && !p.f.ReadOnly() {
		p.t.Fatal("free:", free, "left:", p.left())
	}
}

// plays plays games on small chips.
func plays(t *testing.T, seeds int64, how func(r *rand.Rand) game) {
	t.Helper()
	for seed := range seeds {
		r := rand.New(rand.NewSource(seed))
		geo := api.Geo{Blocks: 8 + r.Intn(3), Pages: 4 + r.Intn(3), Size: 64}
		var bad []int
		if r.Intn(2) == 0 {
			bad = []int{r.Intn(8)}
		}
		p := begin(t, r, geo, 1+r.Intn(4), bad)
		g := how(r)
		g.steps, g.few, g.drops = 400, r.Intn(3)*4, r.Intn(4)
		p.play(g)
	}
}

func TestPlay(t *testing.T) { // P7.3 to P7.8, W2
	plays(t, 60, func(r *rand.Rand) game { return game{reopen: r.Intn(4)} })
}

func TestPlayWithFailures(t *testing.T) { // P7.3 to P7.9
	plays(t, 120, func(r *rand.Rand) game { return game{fail: 10 + r.Intn(100), reopen: r.Intn(4)} })
}

func TestPlayWithLosses(t *testing.T) { // P7.3 to P7.6, P7.8
	plays(t, 60, func(r *rand.Rand) game { return game{loss: 1 + r.Intn(r.Intn(30)+1), reopen: r.Intn(4)} })
}

func TestPlayWithLossesAndFailures(t *testing.T) { // P7.3 to P7.6, P7.8, P7.9
	plays(t, 90, func(r *rand.Rand) game {
		return game{loss: 1 + r.Intn(30), fail: 10 + r.Intn(100), reopen: r.Intn(4)}
	})
}

func TestTheSameOnAGreaterChip(t *testing.T) { // P7.3 to P7.9
	r := rand.New(rand.NewSource(5))
	p := begin(t, r, api.Geo{Blocks: 24, Pages: 16, Size: 128}, 4, []int{3, 9})
	p.play(game{steps: 1500, drops: 1, fail: 400})
	p.play(game{steps: 300, drops: 1, loss: 20, fail: 400})
}
