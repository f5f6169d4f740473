package pool

import (
	"maps"
	"math"
	"math/rand"
	"slices"
	"testing"

	"cuneiform/api"
	"cuneiform/ftl"
	"cuneiform/nand"
	"cuneiform/room"
)

// state is what a pool has, as plainly as can be: the used pages, and the bytes of those that were given some.
type state struct {
	used  map[int]bool
	bytes map[int]string
	text  string
}

func (s state) copied() state {
	return state{maps.Clone(s.used), maps.Clone(s.bytes), s.text}
}

// player plays with a pool, and knows what it has to hold.
type player struct {
	t         *testing.T
	r         *rand.Rand
	c         *nand.Chip
	f         *ftl.FTL
	p         *Pool
	lay       room.Layout
	reserve   int
	now       state
	dirty     map[int]bool
	committed state
	toBe      state // what is being committed
	sealed    int   // how many pages were used behind the last commit
	ends      map[api.Errno]int
}

// game is how it is played: of how many steps one has a loss of power, and a failure (0: none).
type game struct {
	steps, loss, fail int
}

func begin(t *testing.T, r *rand.Rand) *player {
	t.Helper()
	g := api.Geo{Blocks: 8 + r.Intn(6), Pages: 4 + r.Intn(4), Size: 64 << r.Intn(2)}
	c, e := nand.New(g, nil)
	if e != api.OK {
		t.Fatal("New:", e)
	}
	p := &player{t: t, r: r, c: c, reserve: 1 + r.Intn(3), dirty: map[int]bool{}, ends: map[api.Errno]int{}}
	p.now = state{map[int]bool{}, map[int]string{}, string(p.random(g.Size - 8))}
	if p.f, e = ftl.Format(c, p.reserve, []byte(p.now.text)); e != api.OK {
		t.Fatal("Format:", e)
	}
	table := 1 + r.Intn(3)
	p.lay = room.Layout{Table: table, First: table + 1, Pages: 1 + r.Intn(p.f.Capacity()-table-1), Inodes: r.Intn(9)}
	var used []int
	for page := p.lay.First; page < p.lay.First+p.lay.Pages; page++ {
		if r.Intn(4) == 0 {
			used = append(used, page)
			p.now.used[page] = true
		}
	}
	p.fill()
	p.committed = p.now.copied()
	p.opens(used)
	return p
}

// fill gives some of the translation's pages bytes, also such as are not used.
func (p *player) fill() {
	p.t.Helper()
	for page := 1; page < p.f.Capacity(); page++ {
		if p.r.Intn(6) > 0 {
			continue
		}
		b := p.random(p.c.Geo().Size)
		is(p.t, "Write", p.f.Write(uint32(page), b), api.OK)
		if page <= p.lay.Table || p.now.used[page] {
			p.now.bytes[page] = string(b)
		}
	}
	is(p.t, "Seal", p.f.Seal([]byte(p.now.text)), api.OK)
}

func (p *player) random(n int) []byte {
	b := make([]byte, n)
	p.r.Read(b)
	return b
}

func (p *player) one(of int) bool { return of > 0 && p.r.Intn(of) == 0 }

// opens has a pool of what the translation has.
func (p *player) opens(used []int) {
	p.t.Helper()
	var e api.Errno
	p.r.Shuffle(len(used), func(i, k int) { used[i], used[k] = used[k], used[i] })
	if p.p, e = Open(p.f, p.lay, used); e != api.OK {
		p.t.Fatal("Open:", e)
	}
	clear(p.dirty)
	p.sealed = p.f.Used()
	p.same(p.p, p.now)
}

// there tells whether there is such a page, and it is not free.
func (s state) there(lay room.Layout, page int) bool {
	return page >= 1 && page <= lay.Table || s.used[page]
}

// content is what stands in a page that is there.
func (p *player) content(s state, page int) string {
	if b, ok := s.bytes[page]; ok {
		return b
	}
	return string(make([]byte, p.c.Geo().Size))
}

// same fails the test, if a pool has something else.
func (p *player) same(q *Pool, s state) {
	p.t.Helper()
	for page := 0; page <= p.f.Capacity()+1; page++ {
		b, e := q.Get(page)
		if s.there(p.lay, page) {
			if e != api.OK || string(b) != p.content(s, page) {
				p.t.Fatal("Get of", page, e, b, "not", []byte(p.content(s, page)))
			}
		} else if e != api.ErrArg || b != nil {
			p.t.Fatal("Get of what is not there:", page, e, b)
		}
	}
	if got := slices.Collect(q.Used()); !slices.Equal(got, slices.Sorted(maps.Keys(s.used))) || q.Room() != p.lay.Pages-len(s.used) {
		p.t.Fatal("Used, Room:", got, q.Room(), "not", s.used)
	}
}

// onChip fails the test, if a chip that is started anew has something else than what is committed. It tells the translation.
func (p *player) onChip(s state) *ftl.FTL {
	p.t.Helper()
	f := found(p.t, p.c)
	if string(f.Text()) != s.text {
		p.t.Fatal("another text on the chip")
	}
	q, e := Open(f, p.lay, slices.Collect(maps.Keys(s.used)))
	if e != api.OK {
		p.t.Fatal("Open of what is on the chip:", e)
	}
	p.same(q, s)
	return f
}

// page is some number, most often one of a page.
func (p *player) page() int {
	if p.r.Intn(20) == 0 {
		return []int{0, -1, p.lay.First + p.lay.Pages, p.f.Capacity(), math.MaxInt, math.MinInt, 1<<32 + 1, -1 << 32}[p.r.Intn(8)]
	}
	return 1 + p.r.Intn(p.lay.First+p.lay.Pages-1)
}

func (p *player) get() {
	p.t.Helper()
	page := p.page()
	b, e := p.p.Get(page)
	switch {
	case !p.now.there(p.lay, page):
		if e != api.ErrArg || b != nil {
			p.t.Fatal("Get of what is not there:", page, e, b)
		}
	case e != api.OK || string(b) != p.content(p.now, page):
		p.t.Fatal("Get of", page, e, b)
	}
}

func (p *player) put() {
	p.t.Helper()
	page, size := p.page(), p.c.Geo().Size
	if p.r.Intn(20) == 0 {
		size += p.r.Intn(3) - 1
	}
	b, want := p.random(size), api.OK
	if p.r.Intn(9) == 0 {
		clear(b)
	}
	if !p.now.there(p.lay, page) || size != p.c.Geo().Size {
		want = api.ErrArg
	}
	if e := p.p.Put(page, b); e != want {
		p.t.Fatal("Put of", page, e, "not", want)
	}
	if want == api.OK {
		p.now.bytes[page] = string(b)
		p.dirty[page] = true
	}
}

func (p *player) alloc() {
	p.t.Helper()
	want, none := p.lay.First, api.OK
	for p.now.used[want] {
		want++
	}
	if want >= p.lay.First+p.lay.Pages {
		want, none = 0, api.ErrFull
	}
	if n, e := p.p.Alloc(); n != want || e != none {
		p.t.Fatal("Alloc:", n, e, "not", want, none)
	}
	if none == api.OK {
		p.now.used[want] = true
		p.now.bytes[want] = string(make([]byte, p.c.Geo().Size))
		p.dirty[want] = true
	}
}

func (p *player) free() {
	p.t.Helper()
	page, want := p.page(), api.OK
	if !p.now.used[page] {
		want = api.ErrArg
	}
	if e := p.p.Free(page); e != want {
		p.t.Fatal("Free of", page, e, "not", want)
	}
	delete(p.now.used, page)
	if want == api.OK {
		delete(p.now.bytes, page)
		delete(p.dirty, page)
	}
}

// left is how many blocks may still go bad.
func (p *player) left() int {
	n := p.reserve
	for k := range p.c.Geo().Blocks {
		if p.c.Bad(k) {
			n--
		}
	}
	return n
}

func (p *player) commit() {
	p.t.Helper()
	text := p.random(p.c.Geo().Size - 8)
	p.toBe = p.now.copied()
	p.toBe.text = string(text)
	full := p.sealed+len(p.dirty) > p.f.Capacity()
	e := p.p.Commit(text)
	p.ends[e]++
	switch {
	case e == api.OK && !full && p.c.Up():
		p.now.text = string(text)
		p.committed = p.now.copied()
		clear(p.dirty)
		p.sealed = p.f.Used()
		p.has()
		p.onChip(p.committed)
	case e == api.ErrFull && full, e == api.ErrReserve && p.left() <= 0:
		p.onChip(p.committed)
	case e == api.ErrDown && !p.c.Up():
	default:
		p.t.Fatal("Commit:", e, "full:", full, "left:", p.left(), "up:", p.c.Up())
	}
}

// has fails the test, if the translation has not just what was committed.
func (p *player) has() {
	p.t.Helper()
	want := map[uint32]string{}
	for page, b := range p.committed.bytes {
		want[uint32(page)] = b
	}
	if got := slices.Collect(p.f.Pages()); !slices.Equal(got, slices.Sorted(maps.Keys(want))) {
		p.t.Fatal("the translation's pages:", got, "not", slices.Sorted(maps.Keys(want)))
	}
	for page, b := range want {
		if got, e := p.f.Read(page); e != api.OK || string(got) != b {
			p.t.Fatal("the translation's page", page, e)
		}
	}
	if string(p.f.Text()) != p.committed.text {
		p.t.Fatal("another text")
	}
}

// starts takes the chip up again: what was committed last is there, or what was being committed.
func (p *player) starts() {
	p.t.Helper()
	p.c.Start()
	var e api.Errno
	if p.f, e = ftl.Open(p.c); e != api.OK {
		p.t.Fatal("the translation that is opened anew:", e)
	}
	if string(p.f.Text()) == p.toBe.text {
		p.committed = p.toBe.copied()
	}
	p.onChip(p.committed)
	p.now = p.committed.copied()
	p.opens(slices.Collect(maps.Keys(p.now.used)))
}

// faults sets what goes wrong next.
func (p *player) faults(g game) {
	var l []api.Fault
	data := p.random(p.r.Intn(40))
	for i := range data {
		data[i] %= byte(2 + p.r.Intn(2))
	}
	if p.one(g.loss) {
		l = append(l, api.Fault{At: p.r.Intn(4) * p.r.Intn(8), Kind: api.Ahead + p.r.Intn(2), Data: data})
	}
	if p.one(g.fail) {
		l = append(l, api.Fault{At: p.r.Intn(4), Kind: api.Failed, Data: data})
	}
	if l != nil {
		p.c.Script(l)
	}
}

// play plays until the steps are done, or the reserve is.
func (p *player) play(g game) {
	p.t.Helper()
	for range g.steps {
		p.faults(g)
		strokes := p.c.Strokes()
		committing := false
		switch x := p.r.Intn(20); {
		case x < 3:
			p.get()
		case x < 9:
			p.put()
		case x < 13:
			p.alloc()
		case x < 16:
			p.free()
		case x < 19:
			committing = true
			p.commit()
		case p.r.Intn(9) == 0:
			p.toBe = p.committed
			p.starts()
		default:
			is(p.t, "Commit of a wrong text", p.p.Commit(p.random(p.r.Intn(56))), api.ErrArg)
		}
		if !committing && p.c.Strokes() != strokes {
			p.t.Fatal("strokes without a commit")
		}
		if p.p.Dirty() != len(p.dirty) {
			p.t.Fatal("Dirty:", p.p.Dirty(), "not", len(p.dirty))
		}
		if !p.c.Up() {
			p.starts()
		}
		if p.p.ReadOnly() != p.f.ReadOnly() {
			p.t.Fatal("ReadOnly:", p.p.ReadOnly())
		}
		if p.f.ReadOnly() {
			break
		}
		p.same(p.p, p.now)
	}
	p.same(p.p, p.now)
}

// plays plays games on small chips, and tells how the commits ended.
func plays(t *testing.T, seeds int64, how func(r *rand.Rand) game) map[api.Errno]int {
	t.Helper()
	ends := map[api.Errno]int{}
	for seed := range seeds {
		p := begin(t, rand.New(rand.NewSource(seed)))
		p.play(how(p.r))
		for e, n := range p.ends {
			ends[e] += n
		}
	}
	return ends
}

// met fails the test, if a play did not come to what it is for.
func met(t *testing.T, ends map[api.Errno]int, want ...api.Errno) {
	t.Helper()
	for _, e := range want {
		if ends[e] < 5 {
			t.Errorf("of the commits %d ended with %d", ends[e], e)
		}
	}
}

func TestPlay(t *testing.T) { // P11.2 to P11.4, P11.6
	ends := plays(t, 40, func(r *rand.Rand) game { return game{steps: 400} })
	met(t, ends, api.OK, api.ErrFull)
}

func TestPlayWithLosses(t *testing.T) { // P11.2 to P11.6
	ends := plays(t, 60, func(r *rand.Rand) game { return game{steps: 300, loss: 1 + r.Intn(20)} })
	met(t, ends, api.OK, api.ErrFull, api.ErrDown)
}

func TestPlayWithFailures(t *testing.T) { // P11.2 to P11.4, P11.6
	ends := plays(t, 60, func(r *rand.Rand) game { return game{steps: 300, fail: 2 + r.Intn(60)} })
	met(t, ends, api.OK, api.ErrFull, api.ErrReserve)
}

func TestPlayWithLossesAndFailures(t *testing.T) { // P11.2 to P11.6
	ends := plays(t, 60, func(r *rand.Rand) game {
		return game{steps: 300, loss: 1 + r.Intn(20), fail: 2 + r.Intn(60)}
	})
	met(t, ends, api.OK, api.ErrDown, api.ErrReserve)
}
