package node

import (
	"bytes"
	"maps"
	"math"
	"slices"
	"testing"

	"cuneiform/api"
	"cuneiform/ftl"
	"cuneiform/inode"
	"cuneiform/nand"
	"cuneiform/pool"
	"cuneiform/room"
)

var (
	sizes = []int{64, 128, 256, 512}
	empty = api.Inode{Kind: api.IFile, Links: 1}
)

// is fails the test, if an answer is another one than asked for.
func is(t *testing.T, what string, got, want api.Errno) {
	t.Helper()
	if got != want {
		t.Errorf("%s: %d, not %d", what, got, want)
	}
}

// fresh is a pool of so many pages, of which none is used, behind two of the table, on a new chip of pages of that size.
func fresh(t *testing.T, size, pages int) (*nand.Chip, *ftl.FTL, *pool.Pool) {
	t.Helper()
	blocks := max(8, (pages+5)/32+4)
	c, e := nand.New(api.Geo{Blocks: blocks, Pages: 32, Size: size}, nil)
	if e != api.OK {
		t.Fatal("New:", e)
	}
	f, e := ftl.Format(c, 1, make([]byte, size-8))
	if e != api.OK {
		t.Fatal("Format:", e)
	}
	p, e := pool.Open(f, room.Layout{Table: 2, First: 3, Pages: pages}, nil)
	if e != api.OK {
		t.Fatal("Open:", e)
	}
	return c, f, p
}

// full is so many bytes, of which none is 0.
func full(n int, x byte) []byte {
	b := make([]byte, n)
	for i := range b {
		b[i] = byte(i)%97 + x
	}
	return b
}

// writes writes bytes into a file.
func writes(t *testing.T, p *pool.Pool, i api.Inode, off int64, b []byte) api.Inode {
	t.Helper()
	j, e := Write(p, i, off, b)
	if e != api.OK {
		t.Fatalf("Write of %d bytes at %d: %d", len(b), off, e)
	}
	if want := max(i.Size, off+int64(len(b))); j.Size != want || j.Kind != i.Kind || j.Links != i.Links {
		t.Fatalf("Write of %d bytes at %d: %v", len(b), off, j)
	}
	return j
}

// cuts makes a file as long as that.
func cuts(t *testing.T, p *pool.Pool, i api.Inode, to int64) api.Inode {
	t.Helper()
	j, e := Truncate(p, i, to)
	if e != api.OK || j.Size != to || j.Kind != i.Kind || j.Links != i.Links {
		t.Fatalf("Truncate to %d: %v, %d", to, j, e)
	}
	return j
}

// reads fails the test, if other bytes stand in a file from off on, or if they are told otherwise.
func reads(t *testing.T, p *pool.Pool, i api.Inode, off int64, n int, want []byte) {
	t.Helper()
	b, e := Read(p, i, off, n)
	if e != api.OK || len(b) != len(want) {
		t.Errorf("Read of %d bytes at %d: %d bytes, %d, not %d", n, off, len(b), e, len(want))
		return
	}
	for k := range b {
		if b[k] != want[k] {
			t.Errorf("Read of %d bytes at %d: at %d stands %d, not %d", n, off, off+int64(k), b[k], want[k])
			return
		}
	}
}

// has fails the test, if other pages of a file are there, or it does not take what room says.
func has(t *testing.T, p *pool.Pool, i api.Inode, takes int, pages ...int) {
	t.Helper()
	if l := Pages(p, i); !slices.Equal(l, pages) {
		t.Errorf("Pages: %v, not %v", l, pages)
	}
	if n := Takes(p, i); n != takes {
		t.Errorf("Takes: %d, not %d", n, takes)
	}
	if n, e := room.File(p.Size(), pages); e != api.OK || n != takes {
		t.Errorf("room says %d, %d of %v", n, e, pages)
	}
	if l := ownedBy(p, i); len(l) != takes {
		t.Errorf("Owned: %v, not %d pages", l, takes)
	}
}

// ownedBy are a file's pages of the pool, with their levels.
func ownedBy(p *pool.Pool, i api.Inode) map[int]int {
	return maps.Collect(Owned(p, i))
}

// filled uses up all but so many of a pool's free pages.
func filled(t *testing.T, p *pool.Pool, left int) {
	t.Helper()
	for p.Room() > left {
		if _, e := p.Alloc(); e != api.OK {
			t.Fatal("Alloc:", e)
		}
	}
}

// state is what a pool holds.
type state struct {
	dirty, room int
	used        []int
	pages       map[int]string
}

func stateOf(p *pool.Pool) state {
	s := state{p.Dirty(), p.Room(), slices.Collect(p.Used()), map[int]string{}}
	for page := range p.Layout().First {
		if b, e := p.Get(page); e == api.OK {
			s.pages[page] = string(b)
		}
	}
	for _, page := range s.used {
		b, _ := p.Get(page)
		s.pages[page] = string(b)
	}
	return s
}

// stays fails the test, if something of a pool changed.
func (s state) stays(t *testing.T, p *pool.Pool) {
	t.Helper()
	now := stateOf(p)
	if now.dirty != s.dirty || now.room != s.room || !slices.Equal(now.used, s.used) || !maps.Equal(now.pages, s.pages) {
		t.Errorf("the pool changed: dirty %d, room %d, used %v; it was dirty %d, room %d, used %v", now.dirty, now.room, now.used, s.dirty, s.room, s.used)
	}
}

func TestExample(t *testing.T) { // P12.2 to P12.4
	_, _, p := fresh(t, 64, 20)
	i := writes(t, p, empty, 384, []byte{1})
	has(t, p, i, 2, 6)
	i = cuts(t, p, i, 0)
	has(t, p, i, 0)
}

func TestRead(t *testing.T) { // P12.1
	_, _, p := fresh(t, 64, 100)
	all := full(1024, 1)
	i := writes(t, p, empty, 0, all)
	i = writes(t, p, i, 1024, full(500, 50))
	all = append(all, full(500, 50)...)
	for off := range 1530 {
		for _, n := range []int{0, 1, 2, 63, 64, 65, 500, 1023, 1024} {
			reads(t, p, i, int64(off), n, all[min(off, len(all)):min(off+n, len(all))])
		}
	}
	for _, off := range []int64{1524, 1525, 1536, 67967, 67968, 67969, 1<<31 - 1, 1 << 31, 1 << 40, math.MaxInt64 - 1024, math.MaxInt64 - 1, math.MaxInt64} {
		reads(t, p, i, off, 1024, nil)
		reads(t, p, i, off, 0, nil)
	}
	reads(t, p, empty, 0, 1024, nil)
}

func TestReadOfWhatMayNotBe(t *testing.T) { // P12.1, P1
	c, _, p := fresh(t, 64, 20)
	i := writes(t, p, empty, 0, full(100, 1))
	refused := func(off int64, n int) {
		t.Helper()
		if b, e := Read(p, i, off, n); e != api.ErrArg || len(b) != 0 {
			t.Errorf("Read(%d, %d): %v, %d", off, n, b, e)
		}
		if b, e := Read(nil, i, off, n); e != api.ErrNil || len(b) != 0 {
			t.Errorf("Read(%d, %d) of nil: %v, %d", off, n, b, e)
		}
	}
	for range 2 {
		for _, off := range []int64{-1, -64, -1 << 32, math.MinInt64, math.MinInt64 + 1} {
			for _, n := range []int{0, 1, 1024, 1025, -1, math.MaxInt, math.MinInt} {
				refused(off, n)
			}
		}
		for _, n := range []int{-1, -1024, 1025, 1026, 1<<32 + 1, -1<<32 + 1, math.MaxInt, math.MinInt} {
			for _, off := range []int64{0, 1, 99, 100, 101, 1 << 40, math.MaxInt64} {
				refused(off, n)
			}
		}
		// What may not be is named ahead of the chip that is down.
		c.Lose()
	}
	if b, e := Read(nil, i, 0, 9); e != api.ErrNil || len(b) != 0 {
		t.Error("Read of nil:", b, e)
	}
}

func TestHoles(t *testing.T) { // P12.1, P12.2, P12.5
	for _, size := range sizes {
		k, s := size/2, int64(size)
		_, _, p := fresh(t, size, 60)
		i, f := empty, plainFile(size)
		for n, page := range []int{6 + k, 0, 6, 5, 6 + k + k - 1, 6 + k - 1, 6 + k + k, 6 + k + k*k - 1} {
			for _, from := range []int64{0, s - 1, 7} {
				off := int64(page)*s + from
				i = writes(t, p, i, off, []byte{byte(n + 1)})
				f.write(off, []byte{byte(n + 1)})
			}
			f.same(t, p, i)
		}
		has(t, p, i, 8+1+4, 0, 5, 6, 6+k-1, 6+k, 6+k+k-1, 6+k+k, 6+k+k*k-1)
	}
}

func TestWrite(t *testing.T) { // P12.2, P12.5
	for _, size := range sizes {
		_, _, p := fresh(t, size, 200)
		for _, n := range []int{1, 2, size - 1, size, size + 1, 2 * size, 1023, 1024} {
			for _, off := range []int{0, 1, size - 1, size, 5*size - 1, 6*size - 1, 6 * size, (6+size/2)*size - 1, (6 + size/2) * size} {
				was := full(n, 1)
				handed := slices.Clone(was)
				i := writes(t, p, empty, int64(off), handed)
				if !bytes.Equal(handed, was) {
					t.Fatal("what was handed in was changed")
				}
				clear(handed)
				reads(t, p, i, int64(off), 1024, was)
				reads(t, p, i, int64(off), n, was)
				reads(t, p, i, int64(off)+int64(n)-1, 1024, was[n-1:])
				ahead := min(off, 1024)
				reads(t, p, i, int64(off-ahead), ahead, make([]byte, ahead))
				var pages []int
				for page := off / size; page <= (off+n-1)/size; page++ {
					pages = append(pages, page)
				}
				takes, _ := room.File(size, pages)
				has(t, p, i, takes, pages...)
				if p.Room() != 200-takes {
					t.Errorf("Room: %d, %d are taken", p.Room(), takes)
				}
				// What is written over takes nothing more, and leaves what stands beside it.
				copy(was[n/2:], "x")
				j := writes(t, p, i, int64(off+n/2), []byte("x"))
				if j != i {
					t.Errorf("the inode behind what was written over: %v, not %v", j, i)
				}
				reads(t, p, j, int64(off), 1024, was)
				has(t, p, j, takes, pages...)
				cuts(t, p, j, 0)
			}
		}
	}
}

func TestWhatStandsBesideWhatIsWritten(t *testing.T) { // P12.2, P12.5
	_, _, p := fresh(t, 64, 20)
	// A page that was another file's, and is handed out again, holds bytes 0 beside.
	i := cuts(t, p, writes(t, p, empty, 0, full(640, 1)), 0)
	is(t, "Commit", p.Commit(make([]byte, 56)), api.OK)
	i = writes(t, p, i, 70, []byte{9})
	i = writes(t, p, i, 200, []byte{8})
	want := make([]byte, 201)
	want[70], want[200] = 9, 8
	reads(t, p, i, 0, 1024, want)
	i = cuts(t, p, i, 1024)
	reads(t, p, i, 0, 1024, append(want, make([]byte, 1024-201)...))
	has(t, p, i, 2, 1, 3)
}

func TestWriteOfNothing(t *testing.T) { // P12.2
	_, _, p := fresh(t, 64, 20)
	i := writes(t, p, empty, 0, full(100, 1))
	filled(t, p, 0)
	before := stateOf(p)
	for _, j := range []api.Inode{i, empty, {}, {Kind: 77, Links: -5}} {
		for _, off := range []int64{0, 1, 99, 100, 101, 384, 67967, 67968} {
			for _, b := range [][]byte{nil, {}} {
				if got, e := Write(p, j, off, b); e != api.OK || got != j {
					t.Errorf("Write of nothing at %d: %v, %d", off, got, e)
				}
			}
		}
	}
	before.stays(t, p)
}

func TestWriteOfWhatMayNotBe(t *testing.T) { // P12.2, P12.7, P1
	for _, size := range sizes {
		c, _, p := fresh(t, size, 40)
		most := inode.Most(size)
		i := writes(t, p, empty, 0, full(100, 1))
		refused := func(want api.Errno, off int64, n int) {
			t.Helper()
			if j, e := Write(p, i, off, make([]byte, n)); e != want || j != (api.Inode{}) {
				t.Errorf("Write(%d, %d bytes): %v, %d, not %d", off, n, j, e, want)
			}
			if j, e := Write(nil, i, off, make([]byte, n)); e != api.ErrNil || j != (api.Inode{}) {
				t.Errorf("Write(%d, %d bytes) of nil: %v, %d", off, n, j, e)
			}
		}
		all := func() {
			t.Helper()
			for _, n := range []int{0, 1, 1024, 1025, 2000} {
				for _, off := range []int64{-1, -64, math.MinInt64, math.MinInt64 + 1024} {
					refused(api.ErrArg, off, n)
				}
				for _, off := range []int64{most + 1, most + 1025, 1 << 31, 1 << 40, math.MaxInt64 - 1024, math.MaxInt64 - 1, math.MaxInt64} {
					if n <= 1024 {
						refused(api.ErrBig, off, n)
					}
				}
				if n > 0 && n <= 1024 {
					refused(api.ErrBig, most-int64(n)+1, n)
					refused(api.ErrBig, most, n)
				}
			}
			for _, n := range []int{1025, 1026, 1 << 16} {
				for _, off := range []int64{0, 1, 100, most - int64(n), most - int64(n) + 1, most, math.MaxInt64} {
					refused(api.ErrArg, off, n)
				}
			}
		}
		before := stateOf(p)
		all()
		before.stays(t, p)
		// Each is named ahead of the space that is not there.
		filled(t, p, 0)
		before = stateOf(p)
		all()
		before.stays(t, p)
		// And ahead of the chip that is down.
		c.Lose()
		all()
	}
}

func TestGreatest(t *testing.T) { // P12.2, P12.3
	for _, size := range sizes {
		_, _, p := fresh(t, size, 40)
		most := inode.Most(size)
		last := int(most/int64(size)) - 1
		for _, n := range []int64{1, 2, 1024} {
			b := full(int(n), 1)
			i := writes(t, p, empty, most-n, b)
			if i.Size != most {
				t.Error("Size:", i.Size)
			}
			reads(t, p, i, most-n, 1024, b)
			if l := Pages(p, i); l[len(l)-1] != last {
				t.Error("the last page:", l, "not", last)
			}
			i = cuts(t, p, i, most)
			reads(t, p, i, most-n, 1024, b)
			i = cuts(t, p, i, most-1)
			reads(t, p, i, most-n, 1024, b[:n-1])
			i = cuts(t, p, i, 0)
			i = cuts(t, p, i, most)
			has(t, p, i, 0)
			reads(t, p, i, most-5, 1024, make([]byte, 5))
			cuts(t, p, i, 0)
		}
	}
}

func TestSpace(t *testing.T) { // P12.2, P12.7
	for _, size := range sizes {
		k := size / 2
		at := func(page int) int64 { return int64(page) * int64(size) }
		for _, c := range []struct {
			have []int // pages that are there
			off  int64
			n    int
			need int
		}{
			{nil, 0, 1, 1},
			{nil, 0, size, 1},
			{nil, 1, size, 2},
			{nil, 0, 1024, takesOf(size, []int{0, 1, 2, 3, 4, 5, 6, 7, 8, 9, 10, 11, 12, 13, 14, 15}[:1024/size])},
			{nil, at(5), 1, 1},
			{nil, at(6), 1, 2},
			{nil, at(6) - 1, 2, 3},
			{[]int{5}, at(6) - 1, 2, 2},
			{[]int{6}, at(6) - 1, 2, 1},
			{[]int{6}, at(7), 1, 1},
			{[]int{5, 6}, at(6) - 1, 2, 0},
			{nil, at(6 + k), 1, 3},
			{nil, at(6+k) - 1, 2, 5},
			{[]int{6}, at(6+k) - 1, 2, 4},
			{[]int{6 + k}, at(6+k) - 1, 2, 2},
			{[]int{6 + k}, at(6+k) + 1, 1, 0},
			{[]int{6 + k}, at(7 + k), 1, 1},
			{[]int{6 + k}, at(6 + k + k), 1, 2},
			{[]int{6 + k}, at(6+k+k) - 1, 2, 3},
			{[]int{6 + k + k}, at(6+k+k) - 1, 2, 2},
			{[]int{6 + k + k}, at(6+k+k*k) - 1, 1, 2},
		} {
			for left := range c.need + 2 {
				_, _, p := fresh(t, size, 60)
				i := empty
				for _, page := range c.have {
					i = writes(t, p, i, at(page), full(size, 7))
				}
				filled(t, p, left)
				is(t, "Commit", p.Commit(make([]byte, size-8)), api.OK)
				before := stateOf(p)
				j, e := Write(p, i, c.off, full(c.n, 1))
				if left < c.need {
					if e != api.ErrSpace || j != (api.Inode{}) {
						t.Errorf("size %d, Write of %d bytes at %d, %d pages being free, %d needed: %v, %d", size, c.n, c.off, left, c.need, j, e)
					}
					before.stays(t, p)
					has(t, p, i, takesOf(size, c.have), c.have...)
					continue
				}
				if e != api.OK || p.Room() != left-c.need || Takes(p, j) != takesOf(size, c.have)+c.need {
					t.Errorf("size %d, Write of %d bytes at %d, %d pages being free, %d needed: %v, %d, %d are free", size, c.n, c.off, left, c.need, j, e, p.Room())
				}
				reads(t, p, j, c.off, c.n, full(c.n, 1))
				if cuts(t, p, j, 0); p.Room() != left+takesOf(size, c.have) {
					t.Errorf("size %d: %d pages are free behind the cut", size, p.Room())
				}
			}
		}
	}
}

// takesOf is how many pages a file of these takes.
func takesOf(size int, pages []int) int {
	n, _ := room.File(size, pages)
	return n
}

func TestTruncate(t *testing.T) { // P12.3, P12.5
	const size, k = 64, 32
	have := []int{0, 1, 5, 6, 9, 37, 38, 40, 69, 70, 102, 1061}
	_, _, p := fresh(t, size, 60)
	borders := []int64{0, 67968}
	for _, page := range append([]int{2, 4, 7, 8, 10, 36, 39, 41, 68, 71, 101, 103, 134, 500, 1060}, have...) {
		borders = append(borders, int64(page)*size, int64(page)*size+size/2, int64(page)*size+size-1, int64(page)*size+1)
	}
	slices.Sort(borders)
	for _, to := range borders {
		i := empty
		for _, page := range have {
			i = writes(t, p, i, int64(page)*size, full(size, byte(page)+1))
		}
		if p.Room() != 60-takesOf(size, have) {
			t.Fatal("Room:", p.Room())
		}
		before := i
		i = cuts(t, p, i, to)
		var stay []int
		for _, page := range have {
			if int64(page)*size < to {
				stay = append(stay, page)
			}
		}
		has(t, p, i, takesOf(size, stay), stay...)
		if p.Room() != 60-takesOf(size, stay) {
			t.Errorf("cut to %d: Room: %d", to, p.Room())
		}
		if to == before.Size && i != before {
			t.Error("cut to its size:", i)
		}
		// What was cut off is 0 when the file is longer again, what stays is as it was.
		i = cuts(t, p, i, 67968)
		has(t, p, i, takesOf(size, stay), stay...)
		for _, page := range have {
			want := full(size, byte(page)+1)
			clear(want[min(size, max(0, to-int64(page)*size)):])
			reads(t, p, i, int64(page)*size, size, want)
		}
		// Also by what is written behind it.
		i = cuts(t, p, i, to)
		if to > 0 && to < 67900 {
			i = writes(t, p, i, to+60, []byte{7})
			b, e := Read(p, i, to, 61)
			if want := append(make([]byte, 60), 7); e != api.OK || !bytes.Equal(b, want) {
				t.Errorf("cut to %d and written behind: %v, %d", to, b, e)
			}
		}
		cuts(t, p, i, 0)
		if p.Room() != 60 {
			t.Fatal("Room behind a cut to 0:", p.Room())
		}
	}
}

func TestTruncateOfHoles(t *testing.T) { // P12.3, P12.4, P12.8
	for _, size := range sizes {
		k, s := size/2, int64(size)
		for _, c := range []struct {
			have []int
			to   int64 // in pages
			stay []int
		}{
			{[]int{20}, 10, nil},                              // Single leads to nothing any more
			{[]int{2, 20}, 10, []int{2}},                      //
			{[]int{8, 20}, 10, []int{8}},                      //
			{[]int{6 + k + 9}, int64(6 + k + 5), nil},         // nor does Double
			{[]int{6 + k + 9}, int64(6 + k), nil},             //
			{[]int{6, 6 + k + 9}, int64(6 + k + 5), []int{6}}, //
			{[]int{6 + k + 2, 6 + k + 9}, int64(6 + k + 5), []int{6 + k + 2}},
			{[]int{6 + k, 6 + k + k + 9}, int64(6 + k + k + 5), []int{6 + k}},
			{[]int{6 + k, 6 + k + k + 9}, int64(6 + k + k), []int{6 + k}},
			{[]int{6 + k + k + 3, 6 + k + 3*k + 9}, int64(6 + k + 3*k + 9), []int{6 + k + k + 3}},
			{[]int{6 + k + k + 3, 6 + k + 3*k + 9}, int64(6 + k + 3*k + 10), []int{6 + k + k + 3, 6 + k + 3*k + 9}},
			{[]int{6 + k*k}, 6, nil},
		} {
			_, _, p := fresh(t, size, 30)
			i := empty
			for _, page := range c.have {
				i = writes(t, p, i, int64(page)*s+3, []byte{5})
			}
			is(t, "Commit", p.Commit(make([]byte, size-8)), api.OK)
			i = cuts(t, p, i, c.to*s)
			has(t, p, i, takesOf(size, c.stay), c.stay...)
			if p.Room() != 30-takesOf(size, c.stay) {
				t.Errorf("size %d, %v cut to %d pages: Room: %d", size, c.have, c.to, p.Room())
			}
			if len(c.stay) == 0 && i != (api.Inode{Kind: empty.Kind, Links: empty.Links, Size: c.to * s}) {
				t.Errorf("size %d, %v cut to %d pages: %v", size, c.have, c.to, i)
			}
			// Of what was cut off no pointer is left.
			for _, page := range c.have {
				i = writes(t, p, i, int64(page)*s+4, []byte{6})
				want := []byte{0, 0, 0, 0, 6}
				if slices.Contains(c.stay, page) {
					want[3] = 5
				}
				reads(t, p, i, int64(page)*s, 5, want)
			}
			has(t, p, i, takesOf(size, c.have), c.have...)
			cuts(t, p, i, 0)
			if p.Room() != 30 {
				t.Error("Room behind a cut to 0:", p.Room())
			}
		}
	}
}

func TestTruncateChangesNoMore(t *testing.T) { // P12.3
	_, _, p := fresh(t, 64, 60)
	i := writes(t, p, empty, 0, full(1000, 1))
	i = writes(t, p, i, 3000, full(1000, 1))
	is(t, "Commit", p.Commit(make([]byte, 56)), api.OK)
	before := stateOf(p)
	for _, to := range []int64{4000, 4001, 4032, 5000, 67968, 67968} {
		i = cuts(t, p, i, to)
		before.stays(t, p)
	}
	// The last page, and no other one, is changed by a cut within it.
	i = cuts(t, p, i, 3999)
	if p.Dirty() != 1 || p.Room() != before.room {
		t.Error("Dirty, Room:", p.Dirty(), p.Room())
	}
	// A cut at the end of a page changes the pointers to those behind it alone.
	i = cuts(t, p, i, 62*64)
	if p.Dirty() != 1 || p.Room() != before.room+1 {
		t.Error("Dirty, Room:", p.Dirty(), p.Room())
	}
	reads(t, p, i, 3000, 1024, full(1000, 1)[:968])
	reads(t, p, i, 0, 1024, append(full(1000, 1), make([]byte, 24)...))
}

func TestTruncateOfWhatMayNotBe(t *testing.T) { // P12.3, P12.7, P1
	for _, size := range sizes {
		c, _, p := fresh(t, size, 40)
		i := writes(t, p, empty, 0, full(1000, 1))
		most := inode.Most(size)
		before := stateOf(p)
		refused := func(want api.Errno, l ...int64) {
			t.Helper()
			for _, to := range l {
				if j, e := Truncate(p, i, to); e != want || j != (api.Inode{}) {
					t.Errorf("Truncate(%d): %v, %d, not %d", to, j, e, want)
				}
				if j, e := Truncate(nil, i, to); e != api.ErrNil || j != (api.Inode{}) {
					t.Errorf("Truncate(%d) of nil: %v, %d", to, j, e)
				}
			}
		}
		refused(api.ErrArg, -1, -2, -64, -1<<32, math.MinInt64, math.MinInt64+1)
		refused(api.ErrBig, most+1, most+2, 1<<31, 1<<32, 1<<40, math.MaxInt64-1, math.MaxInt64)
		before.stays(t, p)
		if j, e := Truncate(nil, i, 0); e != api.ErrNil || j != (api.Inode{}) {
			t.Error("Truncate of nil:", j, e)
		}
		c.Lose()
		refused(api.ErrArg, -1, math.MinInt64)
		refused(api.ErrBig, most+1, math.MaxInt64)
	}
}

func TestKindAndLinks(t *testing.T) { // P12.2, P12.3
	_, _, p := fresh(t, 64, 40)
	for _, i := range []api.Inode{{}, {Kind: api.IDir}, {Kind: api.IFile, Links: 1000}, {Kind: -3, Links: math.MinInt}, {Kind: math.MaxInt, Links: -1}} {
		j := writes(t, p, i, 300, full(200, 1))
		reads(t, p, j, 300, 1024, full(200, 1))
		has(t, p, j, 5, 4, 5, 6, 7)
		j.Links, j.Kind = 3, api.IFile
		reads(t, p, j, 300, 1024, full(200, 1))
		j.Links, j.Kind = i.Links, i.Kind
		j = cuts(t, p, j, 0)
		if j != i {
			t.Errorf("cut to 0: %v, not %v", j, i)
		}
	}
}

func TestPagesOwnedAndTakes(t *testing.T) { // P12.4
	for _, size := range sizes {
		k, s := size/2, int64(size)
		_, _, p := fresh(t, size, 60)
		i := empty
		has(t, p, i, 0)
		var pages []int
		for _, x := range []struct{ page, takes int }{
			{6 + k + k, 3}, {3, 4}, {6 + k - 1, 6}, {6 + k*k, 8}, {6, 9}, {0, 10}, {6 + k, 12}, {6 + k + 1, 13}, {5, 14},
		} {
			i = writes(t, p, i, int64(x.page)*s+2, []byte{1})
			pages = append(pages, x.page)
			slices.Sort(pages)
			has(t, p, i, x.takes, pages...)
			if p.Room() != 60-x.takes {
				t.Error("Room:", p.Room())
			}
			owned := ownedBy(p, i)
			if l := slices.Sorted(maps.Keys(owned)); !slices.Equal(l, slices.Collect(p.Used())) {
				t.Errorf("Owned: %v, used are %v", l, slices.Collect(p.Used()))
			}
			if levels := levelsOf(t, p, i, owned); levels[0] != len(pages) || levels[0]+levels[1]+levels[2] != x.takes {
				t.Errorf("the levels: %v of %v", levels, owned)
			}
		}
	}
}

// levelsOf is how many pages of each level are told. It fails the test, if one is told with another one than it is of.
func levelsOf(t *testing.T, p *pool.Pool, i api.Inode, owned map[int]int) [3]int {
	t.Helper()
	var n [3]int
	for _, level := range owned {
		n[level]++
	}
	level := func(page, want int) []byte {
		t.Helper()
		if page == 0 {
			return nil
		}
		if got, ok := owned[page]; !ok || got != want {
			t.Errorf("of %d levels is told %d: %v, %v", want, page, got, ok)
		}
		b, e := p.Get(page)
		is(t, "Get", e, api.OK)
		return b
	}
	for _, page := range i.Direct {
		level(page, 0)
	}
	for _, page := range inode.Pointers(level(i.Single, 1)) {
		level(page, 0)
	}
	for _, m := range inode.Pointers(level(i.Double, 2)) {
		for _, page := range inode.Pointers(level(m, 1)) {
			level(page, 0)
		}
	}
	return n
}

func TestOwnedAsFarAsAskedFor(t *testing.T) { // P12.4
	_, _, p := fresh(t, 64, 60)
	i := writes(t, p, empty, 0, full(1024, 1))
	i = writes(t, p, i, 2400, full(500, 1))
	i = writes(t, p, i, 60000, full(500, 1))
	all := ownedBy(p, i)
	was := Owned(p, i)
	for n := range len(all) + 2 {
		seen := map[int]int{}
		for page, levels := range was {
			if len(seen) == n {
				break
			}
			seen[page] = levels
		}
		if len(seen) != min(n, len(all)) {
			t.Errorf("of %d asked for there were %d", n, len(seen))
		}
		for page, levels := range seen {
			if got, ok := all[page]; !ok || got != levels {
				t.Errorf("page %d, level %d", page, levels)
			}
		}
	}
	// Who is told of them may free them, and they are told again.
	for page := range was {
		is(t, "Free", p.Free(page), api.OK)
	}
	if p.Room() != 60 || !maps.Equal(maps.Collect(was), all) {
		t.Error("Room:", p.Room(), maps.Collect(was))
	}
}

func TestNil(t *testing.T) { // P12.1 to P12.4, P1
	var j api.Inode
	j.Size, j.Single, j.Double = 5000, 7, 8
	for n := range j.Direct {
		j.Direct[n] = n + 3
	}
	for _, i := range []api.Inode{{}, empty, j} {
		if l, n := Pages(nil, i), Takes(nil, i); len(l) != 0 || n != 0 {
			t.Error("Pages, Takes:", l, n)
		}
		for page := range Owned(nil, i) {
			t.Error("Owned:", page)
		}
	}
}

func TestMemory(t *testing.T) { // P12.1, P12.2, P12.4, rule 3
	_, _, p := fresh(t, 64, 40)
	i := writes(t, p, empty, 0, full(500, 1))
	for range 2 {
		before := stateOf(p)
		b, e := Read(p, i, 0, 500)
		is(t, "Read", e, api.OK)
		clear(b[:cap(b)])
		l := Pages(p, i)
		clear(l[:cap(l)])
		before.stays(t, p)
		reads(t, p, i, 0, 1024, full(500, 1))
		has(t, p, i, 9, 0, 1, 2, 3, 4, 5, 6, 7)
		is(t, "Commit", p.Commit(make([]byte, 56)), api.OK)
	}
	handed := full(64, 30)
	i = writes(t, p, i, 64, handed)
	clear(handed)
	reads(t, p, i, 64, 64, full(64, 30))
}

func TestFilesOfOnePool(t *testing.T) { // P12.6
	_, _, p := fresh(t, 64, 600)
	files := make([]api.Inode, 5)
	for n := range 40 {
		for k := range files {
			files[k] = writes(t, p, files[k], int64(n)*50*int64(k+1), full(50, byte(10*k+n)))
		}
	}
	owner := map[int]int{}
	for k, i := range files {
		for page := range Owned(p, i) {
			if other, ok := owner[page]; ok {
				t.Errorf("the page %d of %d is also of %d", page, k, other)
			}
			owner[page] = k
		}
	}
	if len(owner) != 600-p.Room() {
		t.Error("there are pages without an owner:", len(owner), p.Room())
	}
	for cut := range files {
		files[cut] = cuts(t, p, files[cut], int64(cut)*70)
		files[cut] = writes(t, p, files[cut], 20, full(30, 200))
		for k := cut + 1; k < len(files); k++ {
			for n := range 40 {
				reads(t, p, files[k], int64(n)*50*int64(k+1), 50, full(50, byte(10*k+n)))
			}
		}
	}
}

func TestCutToNothing(t *testing.T) { // P12.8
	for _, size := range sizes {
		k := size / 2
		_, _, p := fresh(t, size, 3*k+200)
		i := empty
		pages := []int{}
		for n := range 6 + k + k + 5 {
			i = writes(t, p, i, int64(n)*int64(size), full(size, byte(n)))
			pages = append(pages, n)
		}
		i = writes(t, p, i, inode.Most(size)-1, []byte{1})
		pages = append(pages, 6+k+k*k-1)
		has(t, p, i, len(pages)+5, pages...)
		is(t, "Commit", p.Commit(make([]byte, size-8)), api.OK)
		i = cuts(t, p, i, 0)
		if i != empty || p.Room() != 3*k+200 || p.Dirty() != 0 || len(slices.Collect(p.Used())) != 0 {
			t.Error("cut to 0:", i, p.Room(), p.Dirty(), slices.Collect(p.Used()))
		}
		has(t, p, i, 0)
		reads(t, p, i, 0, 1024, nil)
	}
}

func TestTheGreatestFileWhole(t *testing.T) { // P12.2 to P12.5, P12.8
	const size, pages = 64, 1062
	_, _, p := fresh(t, size, pages+34)
	i := empty
	all := full(size*pages, 3)
	for off := 0; off < len(all); off += 1000 {
		i = writes(t, p, i, int64(off), all[off:min(off+1000, len(all))])
	}
	if p.Room() != 0 || Takes(p, i) != pages+34 || len(Pages(p, i)) != pages {
		t.Error("Room, Takes:", p.Room(), Takes(p, i))
	}
	is(t, "Commit", p.Commit(make([]byte, size-8)), api.OK)
	for off := 0; off < len(all); off += 1024 {
		reads(t, p, i, int64(off), 1024, all[off:min(off+1024, len(all))])
	}
	for to := len(all); to > 0; to -= 777 {
		i = cuts(t, p, i, int64(to))
		want := takesOf(size, Pages(p, i))
		if len(Pages(p, i)) != (to+size-1)/size || Takes(p, i) != want || p.Room() != pages+34-want {
			t.Fatal("cut to", to, Takes(p, i), p.Room())
		}
		reads(t, p, i, int64(max(0, to-500)), 1024, all[max(0, to-500):to])
	}
	cuts(t, p, i, 0)
	if p.Room() != pages+34 {
		t.Error("Room:", p.Room())
	}
}

func TestWhatIsDown(t *testing.T) { // P12.1 to P12.3, P12.7
	for _, commit := range []bool{false, true} {
		c, _, p := fresh(t, 64, 60)
		i := writes(t, p, empty, 10, full(1000, 1))
		i = writes(t, p, i, 3000, full(1000, 1))
		if commit {
			is(t, "Commit", p.Commit(make([]byte, 56)), api.OK)
		}
		dirty, free, used := p.Dirty(), p.Room(), slices.Collect(p.Used())
		c.Lose()
		for _, off := range []int64{0, 10, 100, 383, 384, 900, 1500, 3000, 3999} {
			if b, e := Read(p, i, off, 100); e != api.ErrDown || len(b) != 0 {
				t.Errorf("Read at %d: %v, %d", off, b, e)
			}
			for _, n := range []int{1, 100, 1024} {
				if j, e := Write(p, i, off, full(n, 1)); e != api.ErrDown || j != (api.Inode{}) {
					t.Errorf("Write at %d: %v, %d", off, j, e)
				}
			}
			if j, e := Truncate(p, i, off); e != api.ErrDown || j != (api.Inode{}) {
				t.Errorf("Truncate to %d: %v, %d", off, j, e)
			}
		}
		if j, e := Write(p, empty, 500, full(100, 1)); e != api.ErrDown || j != (api.Inode{}) {
			t.Error("Write into an empty file:", j, e)
		}
		if p.Dirty() != dirty || p.Room() != free || !slices.Equal(slices.Collect(p.Used()), used) {
			t.Error("a refused call changed the pool:", p.Dirty(), p.Room())
		}
		// That there is no space is named first, where no page must be read to know it.
		for p.Room() > 0 {
			p.Alloc()
		}
		if j, e := Write(p, empty, 0, []byte{1}); e != api.ErrSpace || j != (api.Inode{}) {
			t.Error("Write without space:", j, e)
		}
		j := i
		j.Direct[1], j.Single, j.Double, j.Size = 0, 0, 0, 20
		if j, e := Write(p, j, 10, full(100, 1)); e != api.ErrSpace || j != (api.Inode{}) {
			t.Error("Write without space:", j, e)
		}
		// The rest ends.
		if l := Pages(p, i); !slices.Equal(l, []int{0, 1, 2, 3, 4, 5}) {
			t.Error("Pages without what can't be read:", l)
		}
		if n := Takes(p, i); n != 6 {
			t.Error("Takes without what can't be read:", n)
		}
		if l := ownedBy(p, i); len(l) != 8 || l[i.Single] != 1 || l[i.Double] != 2 {
			t.Error("Owned without what can't be read:", l)
		}
	}
}

func TestWhatIsCommitted(t *testing.T) { // P12.5
	for _, size := range sizes {
		c, _, p := fresh(t, size, 100)
		lay := p.Layout()
		i := writes(t, p, empty, 100, full(1000, 1))
		j := writes(t, p, empty, inode.Most(size)-700, full(700, 2))
		i = writes(t, p, i, int64(size)*int64(6+size/2), full(1024, 3))
		is(t, "Commit", p.Commit(make([]byte, size-8)), api.OK)
		used := append(slices.Sorted(maps.Keys(ownedBy(p, i))), slices.Sorted(maps.Keys(ownedBy(p, j)))...)
		slices.Sort(used)
		if !slices.Equal(used, slices.Collect(p.Used())) {
			t.Error("used:", used)
		}
		// What is not committed is gone with the power.
		writes(t, p, i, 0, full(1024, 9))
		cuts(t, p, j, 0)
		c.Lose()
		c.Start()
		f, e := ftl.Open(c)
		is(t, "ftl.Open", e, api.OK)
		p, e = pool.Open(f, lay, used)
		is(t, "pool.Open", e, api.OK)
		reads(t, p, i, 99, 1002, append(append([]byte{0}, full(1000, 1)...), 0))
		reads(t, p, j, inode.Most(size)-700, 1024, full(700, 2))
		reads(t, p, i, int64(size)*int64(6+size/2), 1024, full(1024, 3))
		cuts(t, p, i, 0)
		cuts(t, p, j, 0)
		if p.Room() != lay.Pages {
			t.Error("Room:", p.Room())
		}
	}
}

func TestAPoolThatWasNotOpened(t *testing.T) { // P1
	p := new(pool.Pool)
	j := api.Inode{Kind: 1, Size: 1 << 40, Direct: [6]int{1, 2, 3, -1, 1 << 40, math.MinInt}, Single: 4, Double: 5}
	for _, i := range []api.Inode{{}, empty, j, {Size: -1}, {Size: math.MaxInt64, Single: -7, Double: math.MinInt}} {
		for _, off := range []int64{0, 1, 64, 1 << 40, math.MaxInt64, -1, math.MinInt64} {
			for _, n := range []int{0, 1, 1024} {
				Read(p, i, off, n)
				if off != 0 || n != 0 {
					if _, e := Write(p, i, off, make([]byte, n)); e == api.OK {
						t.Error("Write:", e)
					}
				}
			}
			Truncate(p, i, off)
		}
		Pages(p, i)
		Takes(p, i)
		for range Owned(p, i) {
		}
	}
}
