package pool

import (
	"bytes"
	"math"
	"slices"
	"testing"

	"cuneiform/api"
	"cuneiform/ftl"
	"cuneiform/nand"
	"cuneiform/room"
	"cuneiform/tag"
)

var (
	eight   = api.Geo{Blocks: 8, Pages: 4, Size: 64}
	sixteen = api.Geo{Blocks: 16, Pages: 8, Size: 64}
	two     = room.Layout{Table: 2, First: 3, Pages: 16, Inodes: 4}
)

// wild are numbers of which none is a page of a pool with the layout two.
var wild = []int{math.MinInt, math.MinInt + 3, -1 << 32, -3, -1, 0, 19, 20, 21, 22, 23, 1 << 13, 1<<32 + 3, math.MaxInt - 1, math.MaxInt}

// payload is a page's bytes, all x; text is a commit's.
func payload(x byte) []byte { return bytes.Repeat([]byte{x}, 64) }
func text(x byte) []byte    { return bytes.Repeat([]byte{x}, 56) }

// is fails the test, if an answer is another one than asked for.
func is(t *testing.T, what string, got, want api.Errno) {
	t.Helper()
	if got != want {
		t.Errorf("%s: %d, not %d", what, got, want)
	}
}

// formatted is a translation on a new chip, with reserve 1.
func formatted(t *testing.T, g api.Geo) (*nand.Chip, *ftl.FTL) {
	t.Helper()
	c, e := nand.New(g, nil)
	if e != api.OK {
		t.Fatal("New:", e)
	}
	f, e := ftl.Format(c, 1, make([]byte, g.Size-8))
	if e != api.OK {
		t.Fatal("Format:", e)
	}
	return c, f
}

// opened is a pool.
func opened(t *testing.T, f *ftl.FTL, lay room.Layout, used ...int) *Pool {
	t.Helper()
	p, e := Open(f, lay, used)
	if e != api.OK || p == nil {
		t.Fatal("Open:", e)
	}
	return p
}

// fresh is a pool with the layout two, of which nothing is used, on a new chip.
func fresh(t *testing.T) (*nand.Chip, *ftl.FTL, *Pool) {
	t.Helper()
	c, f := formatted(t, sixteen)
	return c, f, opened(t, f, two)
}

// found is what a chip holds that is started anew, with nothing going wrong any more, as far as another object tells.
func found(t *testing.T, c *nand.Chip) *ftl.FTL {
	t.Helper()
	c = c.Copy()
	c.Start()
	c.Script(nil)
	f, e := ftl.Open(c)
	if e != api.OK {
		t.Fatal("what is on the chip:", e)
	}
	return f
}

// gets fails the test, if a page has other bytes than x.
func gets(t *testing.T, p *Pool, page int, x byte) {
	t.Helper()
	if b, e := p.Get(page); e != api.OK || !bytes.Equal(b, payload(x)) {
		t.Errorf("Get(%d): %v, %d, not %d", page, b, e, x)
	}
}

// refuses fails the test, if something of a page is answered otherwise than by an error.
func refuses(t *testing.T, p *Pool, page int, want api.Errno) {
	t.Helper()
	if b, e := p.Get(page); e != want || len(b) != 0 {
		t.Errorf("Get(%d): %v, %d, not %d", page, b, e, want)
	}
}

// puts gives pages bytes x.
func puts(t *testing.T, p *Pool, x byte, pages ...int) {
	t.Helper()
	for _, page := range pages {
		if e := p.Put(page, payload(x)); e != api.OK {
			t.Fatalf("Put(%d): %d", page, e)
		}
	}
}

// allocs fails the test, if other pages are handed out.
func allocs(t *testing.T, p *Pool, want ...int) {
	t.Helper()
	for _, page := range want {
		if n, e := p.Alloc(); e != api.OK || n != page {
			t.Fatalf("Alloc: %d, %d, not %d", n, e, page)
		}
	}
}

// frees takes pages back.
func frees(t *testing.T, p *Pool, pages ...int) {
	t.Helper()
	for _, page := range pages {
		if e := p.Free(page); e != api.OK {
			t.Fatalf("Free(%d): %d", page, e)
		}
	}
}

// commits commits with a text of x.
func commits(t *testing.T, p *Pool, x byte) {
	t.Helper()
	if e := p.Commit(text(x)); e != api.OK {
		t.Fatal("Commit:", e)
	}
}

// stands fails the test, if something else is dirty, free or used.
func stands(t *testing.T, p *Pool, dirty int, used ...int) {
	t.Helper()
	if p.Dirty() != dirty || p.Room() != p.Layout().Pages-len(used) || !slices.Equal(slices.Collect(p.Used()), used) {
		t.Errorf("Dirty, Room, Used: %d, %d, %v; not %d, used %v", p.Dirty(), p.Room(), slices.Collect(p.Used()), dirty, used)
	}
}

// holds fails the test, if a translation has other pages.
func holds(t *testing.T, f *ftl.FTL, want ...uint32) {
	t.Helper()
	if got := slices.Collect(f.Pages()); !slices.Equal(got, want) {
		t.Errorf("the translation's pages: %v, not %v", got, want)
	}
}

// has fails the test, if a translation has other bytes of a page than x.
func has(t *testing.T, f *ftl.FTL, page uint32, x byte) {
	t.Helper()
	if b, e := f.Read(page); e != api.OK || !bytes.Equal(b, payload(x)) {
		t.Errorf("the translation's page %d: %v, %d, not %d", page, b, e, x)
	}
}

func TestExample(t *testing.T) {
	_, _, p := fresh(t)
	allocs(t, p, 3)
	frees(t, p, 3)
	allocs(t, p, 3)
	gets(t, p, 1, 0)
	refuses(t, p, 4, api.ErrArg)
}

func TestOpen(t *testing.T) { // P11.1
	_, f := formatted(t, eight)
	for _, lay := range []room.Layout{
		{Table: 2, First: 3, Pages: 16},
		{Table: 2, First: 3, Pages: 19, Inodes: 4},
		{Table: 1, First: 2, Pages: 1},
		{Table: 1, First: 2, Pages: 20, Inodes: -7},
		{Table: 20, First: 21, Pages: 1, Inodes: math.MaxInt},
	} {
		last := lay.First + lay.Pages - 1
		for _, used := range [][]int{nil, {}, {lay.First}, {last}} {
			p := opened(t, f, lay, used...)
			stands(t, p, 0, used...)
			if p.Size() != 64 || p.Layout() != lay || p.ReadOnly() {
				t.Errorf("Size, Layout, ReadOnly: %d, %v, %v", p.Size(), p.Layout(), p.ReadOnly())
			}
		}
	}
	used := []int{18, 3, 11, 4}
	p := opened(t, f, two, used...)
	if !slices.Equal(used, []int{18, 3, 11, 4}) {
		t.Error("what was handed in was changed to", used)
	}
	used[0], used[1] = 5, 6
	stands(t, p, 0, 3, 4, 11, 18)
	all := make([]int, 16)
	for i := range all {
		all[i] = 18 - i
	}
	p = opened(t, f, two, all...)
	if p.Room() != 0 {
		t.Error("Room, all being used:", p.Room())
	}
}

func TestOpenOfWhatMayNotBe(t *testing.T) { // P11.1, P1
	_, f := formatted(t, eight)
	refused := func(f *ftl.FTL, lay room.Layout, used []int, want api.Errno) {
		t.Helper()
		if p, e := Open(f, lay, used); e != want || p != nil {
			t.Errorf("Open(%v, %v): %v, %d, not %d", lay, used, p, e, want)
		}
	}
	refused(nil, two, nil, api.ErrNil)
	refused(nil, room.Layout{}, []int{0}, api.ErrNil)
	refused(new(ftl.FTL), two, nil, api.ErrArg)
	for _, lay := range []room.Layout{
		{},
		{Table: 0, First: 1, Pages: 16},
		{Table: -1, First: 0, Pages: 16},
		{Table: -5, First: -4, Pages: 16},
		{Table: 2, First: 3, Pages: 0},
		{Table: 2, First: 3, Pages: -1},
		{Table: 2, First: 3, Pages: math.MinInt},
		{Table: 2, First: 4, Pages: 16},
		{Table: 2, First: 2, Pages: 16},
		{Table: 2, First: 0, Pages: 16},
		{Table: 2, First: -3, Pages: 16},
		{Table: 2, First: 3, Pages: 20},
		{Table: 1, First: 2, Pages: 21},
		{Table: 21, First: 22, Pages: 1},
		{Table: 22, First: 23, Pages: 1},
		{Table: 22, First: 23, Pages: -1},
		{Table: 2, First: 3, Pages: math.MaxInt},
		{Table: 2, First: 3, Pages: math.MaxInt - 2},
		{Table: math.MaxInt - 1, First: math.MaxInt, Pages: 1},
		{Table: math.MaxInt, First: math.MinInt, Pages: 1},
		{Table: math.MinInt, First: math.MinInt + 1, Pages: math.MaxInt},
		{Table: math.MinInt, First: math.MaxInt, Pages: 1},
	} {
		refused(f, lay, nil, api.ErrArg)
		refused(f, lay, []int{lay.First}, api.ErrArg)
	}
	for _, n := range append([]int{1, 2}, wild...) {
		refused(f, two, []int{n}, api.ErrArg)
		refused(f, two, []int{3, 4, n, 5}, api.ErrArg)
	}
	for _, used := range [][]int{{3, 3}, {3, 4, 3}, {18, 5, 18}, {4, 3, 4, 5}} {
		refused(f, two, used, api.ErrArg)
	}
}

func TestOpenOfWhatIsDown(t *testing.T) { // P11.1
	c, f := formatted(t, eight)
	c.Lose()
	p := opened(t, f, two, 7)
	stands(t, p, 0, 7)
	if p.Size() != 64 {
		t.Error("Size:", p.Size())
	}
}

func TestSizes(t *testing.T) { // P11.1, P11.2
	for _, size := range []int{64, 128, 256, 512} {
		_, f := formatted(t, api.Geo{Blocks: 8, Pages: 4, Size: size})
		p := opened(t, f, two)
		if p.Size() != size {
			t.Errorf("Size: %d, not %d", p.Size(), size)
		}
		if b, e := p.Get(1); e != api.OK || !bytes.Equal(b, make([]byte, size)) {
			t.Errorf("Get of the size %d: %v, %d", size, b, e)
		}
		for _, n := range []int{0, 1, size - 32, size - 8, size - 1, size + 1, size + 32, 2 * size} {
			is(t, "Put of another size", p.Put(1, make([]byte, n)), api.ErrArg)
		}
		is(t, "Put", p.Put(1, bytes.Repeat([]byte{8}, size)), api.OK)
		is(t, "Commit", p.Commit(make([]byte, size-8)), api.OK)
		if b, e := f.Read(1); e != api.OK || !bytes.Equal(b, bytes.Repeat([]byte{8}, size)) {
			t.Errorf("what was committed of the size %d: %v, %d", size, b, e)
		}
	}
}

func TestGetAndPut(t *testing.T) { // P11.2, P11.4
	c, f, _ := fresh(t)
	is(t, "Write", f.Write(2, payload(7)), api.OK)
	is(t, "Write", f.Write(5, payload(8)), api.OK)
	is(t, "Write", f.Write(6, payload(9)), api.OK)
	p := opened(t, f, two, 18, 5)
	strokes := c.Strokes()
	gets(t, p, 1, 0)
	gets(t, p, 2, 7)
	gets(t, p, 5, 8)
	gets(t, p, 18, 0)
	for _, page := range append([]int{3, 4, 6, 17}, wild...) {
		refuses(t, p, page, api.ErrArg)
		is(t, "Put of a page that is not there", p.Put(page, payload(1)), api.ErrArg)
	}
	stands(t, p, 0, 5, 18)
	puts(t, p, 3, 1, 5)
	gets(t, p, 1, 3)
	gets(t, p, 2, 7)
	gets(t, p, 5, 3)
	gets(t, p, 18, 0)
	stands(t, p, 2, 5, 18)
	puts(t, p, 4, 5, 18, 2)
	puts(t, p, 3, 1)
	stands(t, p, 4, 5, 18)
	for _, b := range [][]byte{nil, {}, {1}, payload(9)[:63], append(payload(9), 9)} {
		is(t, "Put of too many or too few bytes", p.Put(5, b), api.ErrArg)
	}
	gets(t, p, 5, 4)
	gets(t, p, 18, 4)
	gets(t, p, 2, 4)
	gets(t, p, 1, 3)
	stands(t, p, 4, 5, 18)
	if c.Strokes() != strokes {
		t.Error("strokes ahead of a commit:", c.Strokes()-strokes)
	}
}

func TestPutOfTheSame(t *testing.T) { // P11.2
	_, _, p := fresh(t)
	puts(t, p, 0, 1)
	stands(t, p, 1)
	puts(t, p, 3, 2)
	commits(t, p, 1)
	stands(t, p, 0)
	puts(t, p, 3, 2)
	stands(t, p, 1)
}

func TestMemory(t *testing.T) { // P11.2, P11.3, rule 3
	_, _, p := fresh(t)
	b := append(payload(5), payload(6)...)
	is(t, "Put", p.Put(1, b[:64]), api.OK)
	allocs(t, p, 3)
	if !bytes.Equal(b, append(payload(5), payload(6)...)) {
		t.Error("what was handed in was changed")
	}
	clear(b)
	gets(t, p, 1, 5)
	spoil := func() {
		t.Helper()
		for _, page := range []int{1, 2, 3} {
			got, e := p.Get(page)
			is(t, "Get", e, api.OK)
			for i := range got {
				got[i] = 77
			}
		}
		gets(t, p, 1, 5)
		gets(t, p, 2, 0)
		gets(t, p, 3, 0)
	}
	spoil()
	x := text(9)
	is(t, "Commit", p.Commit(x), api.OK)
	if !bytes.Equal(x, text(9)) {
		t.Error("the text was changed")
	}
	spoil()
	stands(t, p, 0, 3)
}

func TestAllocAndFree(t *testing.T) { // P11.2, P11.6
	_, _, p := fresh(t)
	allocs(t, p, 3, 4, 5, 6)
	stands(t, p, 4, 3, 4, 5, 6)
	gets(t, p, 4, 0)
	puts(t, p, 7, 4, 5)
	frees(t, p, 5, 3)
	stands(t, p, 2, 4, 6)
	refuses(t, p, 3, api.ErrArg)
	is(t, "Put of a free page", p.Put(3, payload(1)), api.ErrArg)
	for _, page := range append([]int{1, 2, 3, 5, 7, 18}, wild...) {
		is(t, "Free of what is none, or free", p.Free(page), api.ErrArg)
	}
	stands(t, p, 2, 4, 6)
	gets(t, p, 4, 7)
	allocs(t, p, 3, 5)
	gets(t, p, 5, 0)
	allocs(t, p, 7, 8, 9, 10, 11, 12, 13, 14, 15, 16, 17, 18)
	for range 2 {
		if n, e := p.Alloc(); e != api.ErrFull || n != 0 {
			t.Errorf("Alloc, all being used: %d, %d", n, e)
		}
	}
	if p.Room() != 0 || p.Dirty() != 16 {
		t.Error("Room, Dirty:", p.Room(), p.Dirty())
	}
	frees(t, p, 18)
	allocs(t, p, 18)
}

func TestAllocBetween(t *testing.T) { // P11.2
	_, f := formatted(t, sixteen)
	p := opened(t, f, two, 3, 5, 6, 18)
	allocs(t, p, 4, 7, 8)
	stands(t, p, 3, 3, 4, 5, 6, 7, 8, 18)
	frees(t, p, 3)
	allocs(t, p, 3)
}

func TestHandedOutAgain(t *testing.T) { // P11.6, P11.2
	c, f, p := fresh(t)
	allocs(t, p, 3, 4)
	puts(t, p, 9, 3, 4)
	commits(t, p, 1)
	frees(t, p, 3)
	stands(t, p, 0, 4)
	allocs(t, p, 3)
	stands(t, p, 1, 3, 4)
	gets(t, p, 3, 0)
	commits(t, p, 2)
	gets(t, p, 3, 0)
	has(t, found(t, c), 3, 0)
	has(t, f, 4, 9)
	frees(t, p, 4)
	commits(t, p, 3)
	allocs(t, p, 4)
	gets(t, p, 4, 0)
	puts(t, p, 6, 3)
	frees(t, p, 3)
	allocs(t, p, 3)
	gets(t, p, 3, 0)
	commits(t, p, 4)
	again := opened(t, found(t, c), two, 3, 4)
	gets(t, again, 3, 0)
	gets(t, again, 4, 0)
}

func TestAPageThatIsFreeThoughItHasBytes(t *testing.T) { // P11.2, P11.6
	_, f := formatted(t, sixteen)
	for _, page := range []uint32{3, 4} {
		is(t, "Write", f.Write(page, payload(9)), api.OK)
	}
	is(t, "Seal", f.Seal(text(0)), api.OK)
	p := opened(t, f, two)
	allocs(t, p, 3)
	gets(t, p, 3, 0)
	commits(t, p, 1)
	gets(t, p, 3, 0)
	holds(t, f, 3)
	has(t, f, 3, 0)
}

func TestCommit(t *testing.T) { // P11.3
	c, f, p := fresh(t)
	allocs(t, p, 3, 4, 5)
	puts(t, p, 3, 3)
	puts(t, p, 5, 5)
	puts(t, p, 1, 1)
	holds(t, f)
	commits(t, p, 9)
	stands(t, p, 0, 3, 4, 5)
	for _, g := range []*ftl.FTL{f, found(t, c)} {
		holds(t, g, 1, 3, 4, 5)
		has(t, g, 1, 1)
		has(t, g, 3, 3)
		has(t, g, 4, 0)
		has(t, g, 5, 5)
		if !bytes.Equal(g.Text(), text(9)) {
			t.Error("the text:", g.Text())
		}
	}
	gets(t, p, 1, 1)
	gets(t, p, 2, 0)
	gets(t, p, 3, 3)
	gets(t, p, 4, 0)
	puts(t, p, 6, 5)
	frees(t, p, 4)
	has(t, found(t, c), 5, 5)
	commits(t, p, 10)
	stands(t, p, 0, 3, 5)
	holds(t, f, 1, 3, 5)
	has(t, found(t, c), 5, 6)
	refuses(t, p, 4, api.ErrArg)
	// Of what is freed nothing is written.
	strokes := c.Strokes()
	frees(t, p, 3)
	commits(t, p, 11)
	if c.Strokes() != strokes+1 {
		t.Error("strokes of a commit with nothing dirty:", c.Strokes()-strokes)
	}
	holds(t, f, 1, 5)
	commits(t, p, 12)
	if g := found(t, c); !bytes.Equal(g.Text(), text(12)) {
		t.Error("the text of a commit of nothing:", g.Text())
	}
}

func TestCommitDropsWhatIsNotThere(t *testing.T) { // P11.3
	c, f := formatted(t, sixteen)
	for _, page := range []uint32{1, 3, 4, 18, 19, 20, 101} {
		is(t, "Write", f.Write(page, payload(byte(page))), api.OK)
	}
	is(t, "Seal", f.Seal(text(0)), api.OK)
	is(t, "Write", f.Write(30, payload(30)), api.OK)
	p := opened(t, f, two, 4, 5)
	holds(t, f, 1, 3, 4, 18, 19, 20, 30, 101)
	commits(t, p, 1)
	holds(t, f, 1, 4)
	// What was dropped may be there again, where the chip is opened anew; what was never sealed is not.
	g := found(t, c)
	has(t, g, 1, 1)
	has(t, g, 4, 4)
	if b, e := g.Read(30); e != api.ErrNoEntry {
		t.Error("what was never sealed:", b, e)
	}
	gets(t, p, 1, 1)
	gets(t, p, 4, 4)
	gets(t, p, 5, 0)
}

func TestCommitWritesRising(t *testing.T) { // P11.3
	c, _, p := fresh(t)
	allocs(t, p, 3, 4, 5, 6, 7, 8, 9, 10, 11, 12)
	puts(t, p, 1, 9, 2, 12, 1)
	frees(t, p, 5)
	commits(t, p, 1)
	puts(t, p, 2, 11, 8, 1, 10, 2, 3)
	commits(t, p, 2)
	by := map[uint64]api.Tag{}
	var seqs []uint64
	for k := range c.Geo().Blocks {
		for _, b := range c.Pages(k) {
			if x, _, e := tag.Read(b); e == api.OK && x.Seq > 1 {
				by[x.Seq] = x
				seqs = append(seqs, x.Seq)
			}
		}
	}
	slices.Sort(seqs)
	var got []uint32
	for _, seq := range slices.Compact(seqs) {
		got = append(got, by[seq].Page)
	}
	if want := []uint32{1, 2, 3, 4, 6, 7, 8, 9, 10, 11, 12, 0, 1, 2, 3, 8, 10, 11, 0}; !slices.Equal(got, want) {
		t.Errorf("what was written: %v, not %v", got, want)
	}
}

func TestCommitOfAWrongText(t *testing.T) { // P11.3, P1, rule 2
	c, f, p := fresh(t)
	allocs(t, p, 3, 4)
	puts(t, p, 9, 1, 3, 4)
	commits(t, p, 1)
	puts(t, p, 8, 1, 4)
	frees(t, p, 3)
	strokes := c.Strokes()
	for _, n := range []int{0, 1, 48, 55, 57, 64, 96, 1000} {
		is(t, "Commit of a wrong text", p.Commit(make([]byte, n)), api.ErrArg)
	}
	is(t, "Commit without a text", p.Commit(nil), api.ErrArg)
	stands(t, p, 2, 4)
	gets(t, p, 1, 8)
	if c.Strokes() != strokes || f.Used() != 4 {
		t.Error("strokes, Used:", c.Strokes()-strokes, f.Used())
	}
	holds(t, f, 1, 3, 4)
	has(t, f, 1, 9)
	has(t, f, 3, 9)
	c.Lose()
	is(t, "Commit of a wrong text, the chip being down", p.Commit(nil), api.ErrDown)
}

func TestWhatIsDown(t *testing.T) { // P11.2, P11.3, P11.5
	c, _, p := fresh(t)
	allocs(t, p, 3, 4)
	puts(t, p, 9, 1, 3, 4)
	commits(t, p, 1)
	puts(t, p, 8, 1, 3)
	c.Lose()
	for _, page := range []int{1, 2, 3, 4} {
		refuses(t, p, page, api.ErrDown)
	}
	for _, page := range append([]int{5}, wild...) {
		refuses(t, p, page, api.ErrArg)
	}
	is(t, "Commit", p.Commit(text(2)), api.ErrDown)
	stands(t, p, 2, 3, 4)
	// The rest needs no chip.
	is(t, "Put", p.Put(4, payload(2)), api.OK)
	is(t, "Put of a free page", p.Put(5, payload(2)), api.ErrArg)
	allocs(t, p, 5)
	frees(t, p, 3)
	is(t, "Free of a free page", p.Free(3), api.ErrArg)
	stands(t, p, 3, 4, 5)
	refuses(t, p, 5, api.ErrDown)
	refuses(t, p, 3, api.ErrArg)
	if p.Size() != 64 || p.Layout() != two || p.ReadOnly() {
		t.Error("Size, Layout, ReadOnly:", p.Size(), p.Layout(), p.ReadOnly())
	}
	is(t, "Commit", p.Commit(text(2)), api.ErrDown)
	g := found(t, c)
	holds(t, g, 1, 3, 4)
	has(t, g, 1, 9)
	has(t, g, 3, 9)
	if !bytes.Equal(g.Text(), text(1)) {
		t.Error("the text:", g.Text())
	}
}

func TestCommitWithoutRoom(t *testing.T) { // P11.3, P11.5
	c, f := formatted(t, eight) // 22 may be used
	p := opened(t, f, room.Layout{Table: 2, First: 3, Pages: 19})
	allocs(t, p, 3, 4, 5, 6, 7, 8, 9, 10, 11, 12, 13, 14)
	puts(t, p, 1, 3, 4, 5, 6, 7, 8, 9, 10, 11, 12, 13, 14)
	commits(t, p, 1) // 13 are used, with the seal
	puts(t, p, 2, 3, 4, 5, 6, 7, 8, 9, 10, 11)
	commits(t, p, 2) // 22 just so long
	puts(t, p, 3, 3, 4, 5, 6, 7, 8, 9, 10, 11, 12, 13, 14)
	used := []int{3, 4, 5, 6, 7, 8, 9, 10, 11, 12, 13, 14}
	for range 3 {
		is(t, "Commit without room", p.Commit(text(3)), api.ErrFull)
		stands(t, p, 12, used...)
		for _, page := range used {
			gets(t, p, page, 3)
		}
		g := found(t, c)
		holds(t, g, 3, 4, 5, 6, 7, 8, 9, 10, 11, 12, 13, 14)
		has(t, g, 3, 2)
		has(t, g, 11, 2)
		has(t, g, 12, 1)
		if !bytes.Equal(g.Text(), text(2)) || !bytes.Equal(f.Text(), text(2)) {
			t.Error("the text:", g.Text(), f.Text())
		}
	}
	// With what was written in vain, and is free now, there is room.
	frees(t, p, 3, 4, 5)
	commits(t, p, 4)
	stands(t, p, 0, used[3:]...)
	g := found(t, c)
	has(t, g, 6, 3)
	has(t, g, 14, 3)
	holds(t, f, 6, 7, 8, 9, 10, 11, 12, 13, 14)
}

func TestAllPagesAtOnce(t *testing.T) { // P11.3
	c, f := formatted(t, eight)
	p := opened(t, f, room.Layout{Table: 2, First: 3, Pages: 19})
	for page := 3; page < 22; page++ {
		allocs(t, p, page)
		puts(t, p, byte(page), page)
	}
	puts(t, p, 1, 1)
	puts(t, p, 2, 2)
	commits(t, p, 1)
	g := found(t, c)
	for page := uint32(1); page < 22; page++ {
		has(t, g, page, byte(page))
	}
	// All is used by what is sealed: what is freed makes room only for the commit behind.
	puts(t, p, 9, 1)
	frees(t, p, 21)
	is(t, "Commit without room", p.Commit(text(2)), api.ErrFull)
	stands(t, p, 1, 3, 4, 5, 6, 7, 8, 9, 10, 11, 12, 13, 14, 15, 16, 17, 18, 19, 20)
	has(t, found(t, c), 1, 1)
	has(t, found(t, c), 21, 21)
}

func TestWithoutReserve(t *testing.T) { // P11.3
	c, f, p := fresh(t)
	allocs(t, p, 3, 4)
	puts(t, p, 9, 1, 3, 4)
	commits(t, p, 1)
	puts(t, p, 8, 1, 3)
	var l []api.Fault
	for i := range 40 {
		l = append(l, api.Fault{At: i, Kind: api.Failed})
	}
	is(t, "Script", c.Script(l), api.OK)
	is(t, "Commit without a reserve", p.Commit(text(2)), api.ErrReserve)
	stands(t, p, 2, 3, 4)
	if !p.ReadOnly() || !f.ReadOnly() {
		t.Error("ReadOnly:", p.ReadOnly(), f.ReadOnly())
	}
	// All else goes on.
	gets(t, p, 1, 8)
	gets(t, p, 2, 0)
	gets(t, p, 3, 8)
	gets(t, p, 4, 9)
	allocs(t, p, 5)
	puts(t, p, 7, 2, 4)
	frees(t, p, 3)
	stands(t, p, 4, 4, 5)
	gets(t, p, 2, 7)
	is(t, "Commit, read-only", p.Commit(text(3)), api.ErrReserve)
	frees(t, p, 4, 5)
	stands(t, p, 2)
	is(t, "Script", c.Script(nil), api.OK)
	is(t, "Commit, read-only", p.Commit(text(3)), api.ErrReserve)
	g := found(t, c)
	has(t, g, 1, 9)
	has(t, g, 3, 9)
	has(t, g, 4, 9)
	// Of a pool of which nothing changed, likewise.
	q := opened(t, f, two, 4)
	is(t, "Commit of nothing, read-only", q.Commit(text(3)), api.ErrReserve)
	if !q.ReadOnly() {
		t.Error("ReadOnly of another pool of the same")
	}
}

func TestUsed(t *testing.T) { // P11.3
	_, f := formatted(t, sixteen)
	p := opened(t, f, two, 9, 3, 18, 4)
	var got []int
	for page := range p.Used() {
		got = append(got, page)
		if page == 4 {
			break
		}
	}
	if !slices.Equal(got, []int{3, 4}) {
		t.Error("as far as they are asked for:", got)
	}
	was := p.Used()
	for page := range p.Used() {
		is(t, "Free within Used", p.Free(page), api.OK)
	}
	allocs(t, p, 3, 4, 5)
	for range 2 {
		if got := slices.Collect(was); !slices.Equal(got, []int{3, 4, 9, 18}) {
			t.Error("the used ones of then:", got)
		}
	}
	stands(t, p, 3, 3, 4, 5)
	puts(t, p, 1, 1)
	stands(t, p, 4, 3, 4, 5)
}

func TestNil(t *testing.T) { // P11.2, P11.3, P1
	for _, x := range []int{0, 1, 3, -1, math.MaxInt, math.MinInt} {
		var p *Pool
		refuses(t, p, x, api.ErrNil)
		is(t, "Put", p.Put(x, payload(1)), api.ErrNil)
		is(t, "Free", p.Free(x), api.ErrNil)
		if n, e := p.Alloc(); e != api.ErrNil || n != 0 {
			t.Error("Alloc:", n, e)
		}
		is(t, "Commit", p.Commit(text(1)), api.ErrNil)
		is(t, "Commit", p.Commit(nil), api.ErrNil)
		if p.Dirty() != 0 || p.Room() != 0 || p.Size() != 0 || p.Layout() != (room.Layout{}) || !p.ReadOnly() {
			t.Error("Dirty, Room, Size, Layout, ReadOnly:", p.Dirty(), p.Room(), p.Size(), p.Layout(), p.ReadOnly())
		}
		for page := range p.Used() {
			t.Error("a used page:", page)
		}
	}
}

func TestAPoolThatWasNotOpened(t *testing.T) { // P1
	p := new(Pool)
	for _, page := range append([]int{1, 2, 3, 18}, wild...) {
		refuses(t, p, page, api.ErrArg)
		is(t, "Put", p.Put(page, nil), api.ErrArg)
		is(t, "Put", p.Put(page, payload(1)), api.ErrArg)
		is(t, "Free", p.Free(page), api.ErrArg)
	}
	if n, e := p.Alloc(); e != api.ErrFull || n != 0 {
		t.Error("Alloc:", n, e)
	}
	for _, x := range [][]byte{nil, text(1), payload(1)} {
		if e := p.Commit(x); e == api.OK {
			t.Error("Commit:", e)
		}
	}
	stands(t, p, 0)
	if p.Size() != 0 || !p.ReadOnly() {
		t.Error("Size, ReadOnly:", p.Size(), p.ReadOnly())
	}
}

func TestTheTranslationStaysTheCallers(t *testing.T) { // P11.2, P11.3, rule 3
	_, f, p := fresh(t)
	is(t, "Write", f.Write(1, payload(6)), api.OK)
	gets(t, p, 1, 6)
	is(t, "Write", f.Write(2, payload(6)), api.OK)
	puts(t, p, 5, 2)
	gets(t, p, 2, 5)
	commits(t, p, 1)
	has(t, f, 1, 6)
	has(t, f, 2, 5)
}

func TestALossWithinACommit(t *testing.T) { // P11.5
	for _, data := range [][]byte{nil, {0, 1, 0, 1}, {1, 1, 1, 1, 1, 1, 1, 1}, {7}, payload(0)} {
		for _, kind := range []int{api.Ahead, api.Within} {
			at := 0
			for lossAt(t, api.Fault{At: at, Kind: kind, Data: data}) {
				at++
			}
			if at < 5 {
				t.Error("strokes of a commit of four pages:", at)
			}
		}
	}
}

// lossAt loses the power in the last of many commits, and tells whether it came so far.
func lossAt(t *testing.T, fault api.Fault) bool {
	t.Helper()
	c, f := formatted(t, eight)
	p := opened(t, f, room.Layout{Table: 2, First: 3, Pages: 16})
	allocs(t, p, 3, 4, 5, 6, 7, 8)
	for x := byte(1); x <= 12; x++ {
		puts(t, p, x, 1, 4, 3+int(x)%6)
		commits(t, p, x)
	}
	puts(t, p, 66, 1, 3, 5)
	frees(t, p, 4, 6)
	allocs(t, p, 4)
	is(t, "Script", c.Script([]api.Fault{fault}), api.OK)
	before := map[int]byte{1: 12, 3: 12, 4: 12, 5: 8, 6: 9, 7: 10, 8: 11}
	behind := map[int]byte{1: 66, 3: 66, 4: 0, 5: 66, 7: 10, 8: 11}
	e := p.Commit(text(66))
	if e != api.OK {
		is(t, "Commit without power", e, api.ErrDown)
		stands(t, p, 4, 3, 4, 5, 7, 8)
	}
	g := found(t, c)
	want := before
	if bytes.Equal(g.Text(), text(66)) {
		want = behind
	} else if e == api.OK || !bytes.Equal(g.Text(), text(12)) {
		t.Error("the text:", g.Text())
	}
	q := opened(t, g, room.Layout{Table: 2, First: 3, Pages: 16}, 3, 4, 5, 7, 8)
	for page, x := range want {
		if page != 6 {
			gets(t, q, page, x)
		} else {
			has(t, g, 6, x)
		}
	}
	gets(t, q, 2, 0)
	commits(t, q, 67)
	holds(t, g, 1, 3, 4, 5, 7, 8)
	return e != api.OK
}
