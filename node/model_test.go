package node

import (
	"math"
	"math/rand"
	"slices"
	"testing"

	"cuneiform/api"
	"cuneiform/pool"
)

// plain is a file, as plainly as can be: its size, what stands at each place that is not 0, and which of its pages are there.
type plain struct {
	pageSize int
	size     int64
	bytes    map[int64]byte
	there    map[int]int
}

func plainFile(pageSize int) *plain {
	return &plain{pageSize, 0, map[int64]byte{}, map[int]int{}}
}

// page is the page in which a place is.
func (f *plain) page(off int64) int { return int(off / int64(f.pageSize)) }

// most is how many bytes a file may have.
func (f *plain) most() int64 {
	k := f.pageSize / 2
	return int64(6+k+k*k) * int64(f.pageSize)
}

// pages are the numbers of the pages that are there, and of those in which so many bytes from off on stand.
func (f *plain) pages(off int64, n int) []int {
	var l []int
	for page := range f.there {
		l = append(l, page)
	}
	for k := range n {
		if page := f.page(off + int64(k)); !slices.Contains(l, page) {
			l = append(l, page)
		}
	}
	slices.Sort(l)
	return l
}

// takes is how many pages a file of these takes.
func (f *plain) takes(pages []int) int {
	k := f.pageSize / 2
	pointing := map[int]int{}
	for _, page := range pages {
		switch {
		case page < 6:
		case page < 6+k:
			pointing[-1]++
		default:
			pointing[-2]++
			pointing[(page-6-k)/k]++
		}
	}
	return len(pages) + len(pointing)
}

func (f *plain) write(off int64, b []byte) {
	for k, x := range b {
		f.bytes[off+int64(k)] = x
		f.there[f.page(off+int64(k))] = 1
		f.size = max(f.size, off+int64(k)+1)
	}
}

func (f *plain) truncate(to int64) {
	for off := range f.bytes {
		if off >= to {
			delete(f.bytes, off)
		}
	}
	for page := range f.there {
		if int64(page)*int64(f.pageSize) >= to {
			delete(f.there, page)
		}
	}
	f.size = to
}

// read is what stands from off on, n bytes or as many as there are.
func (f *plain) read(off int64, n int) []byte {
	var b []byte
	for k := int64(0); k < int64(n) && off < f.size-k; k++ {
		b = append(b, f.bytes[off+k])
	}
	return b
}

// same fails the test, if a file is another one.
func (f *plain) same(t *testing.T, p *pool.Pool, i api.Inode) {
	t.Helper()
	if i.Size != f.size {
		t.Fatalf("Size: %d, not %d", i.Size, f.size)
	}
	l := f.pages(0, 0)
	has(t, p, i, f.takes(l), l...)
	for _, page := range append(l, f.page(f.size), f.page(f.size)+1) {
		for _, n := range []int{page - 1, page} {
			if n >= 0 {
				off := int64(n) * int64(f.pageSize)
				reads(t, p, i, off, f.pageSize, f.read(off, f.pageSize))
			}
		}
	}
}

// player plays with files of one pool, and knows what they have to hold.
type player struct {
	t     *testing.T
	r     *rand.Rand
	p     *pool.Pool
	size  int
	all   int // how many pages the pool has
	files []api.Inode
	plain []*plain
	ends  map[api.Errno]int
}

func begin(t *testing.T, r *rand.Rand) *player {
	t.Helper()
	p := &player{t: t, r: r, size: sizes[r.Intn(4)], ends: map[api.Errno]int{}}
	p.all = 5 + r.Intn(90)
	_, _, p.p = fresh(t, p.size, p.all)
	for range 1 + r.Intn(4) {
		p.files = append(p.files, api.Inode{Kind: r.Intn(3), Links: r.Intn(5)})
		p.plain = append(p.plain, plainFile(p.size))
	}
	return p
}

// free is how many pages have to be free.
func (p *player) free() int {
	n := p.all
	for _, f := range p.plain {
		n -= f.takes(f.pages(0, 0))
	}
	return n
}

// place is a place in or behind a file: most often near the beginning, the file's end, or where the way to the pages is another one.
func (p *player) place(f *plain) int64 {
	k := p.size / 2
	borders := []int{0, 0, 1, 6, 6 + k, 6 + k + k, 6 + k + k*k}
	near := int64(borders[p.r.Intn(len(borders))]) * int64(p.size)
	switch p.r.Intn(8) {
	case 0, 1, 2:
		near = f.size
	case 3:
		near = p.r.Int63n(f.most())
	}
	spread := []int{1, 4, 2 * p.size, 1200}[p.r.Intn(4)]
	return near + int64(p.r.Intn(2*spread)-spread)
}

// length is how many bytes are read or written.
func (p *player) length() int {
	return p.r.Intn([]int{3, p.size, 2 * p.size, 1030}[p.r.Intn(4)])
}

func (p *player) write(k int) {
	p.t.Helper()
	f, i := p.plain[k], p.files[k]
	off, b := p.place(f), make([]byte, p.length())
	p.r.Read(b)
	want := api.OK
	switch more := f.takes(f.pages(off, len(b))) - f.takes(f.pages(0, 0)); {
	case off < 0 || len(b) > 1024:
		want = api.ErrArg
	case off+int64(len(b)) > f.most():
		want = api.ErrBig
	case more > p.free():
		want = api.ErrSpace
	}
	j, e := Write(p.p, i, off, b)
	p.ends[e]++
	if e != want {
		p.t.Fatalf("Write of %d bytes at %d: %d, not %d", len(b), off, e, want)
	}
	p.ended(k, j, e, func() { f.write(off, b) })
}

func (p *player) truncate(k int) {
	p.t.Helper()
	f, i := p.plain[k], p.files[k]
	to, want := p.place(f), api.OK
	if p.r.Intn(6) == 0 {
		to = 0
	}
	switch {
	case to < 0:
		want = api.ErrArg
	case to > f.most():
		want = api.ErrBig
	}
	j, e := Truncate(p.p, i, to)
	if e != want {
		p.t.Fatalf("Truncate to %d: %d, not %d", to, e, want)
	}
	p.ended(k, j, e, func() { f.truncate(to) })
}

// ended takes what a file became.
func (p *player) ended(k int, j api.Inode, e api.Errno, does func()) {
	p.t.Helper()
	switch {
	case e != api.OK && j != api.Inode{}:
		p.t.Fatal("an inode beside an error:", j, e)
	case e == api.OK && (j.Kind != p.files[k].Kind || j.Links != p.files[k].Links):
		p.t.Fatal("another kind, or other links:", j, p.files[k])
	case e == api.OK:
		does()
		p.files[k] = j
	}
	if p.p.Room() != p.free() {
		p.t.Fatalf("Room: %d, not %d", p.p.Room(), p.free())
	}
}

func (p *player) read(k int) {
	p.t.Helper()
	off, n := p.place(p.plain[k]), p.length()
	if off < 0 || n > 1024 {
		if b, e := Read(p.p, p.files[k], off, n); e != api.ErrArg || len(b) != 0 {
			p.t.Fatalf("Read of %d bytes at %d: %v, %d", n, off, b, e)
		}
		return
	}
	reads(p.t, p.p, p.files[k], off, n, p.plain[k].read(off, n))
}

// same fails the test, if one of the files is another one, or two have a page in common.
func (p *player) same() {
	p.t.Helper()
	owner := map[int]int{}
	for k, f := range p.plain {
		f.same(p.t, p.p, p.files[k])
		for page := range Owned(p.p, p.files[k]) {
			if other, ok := owner[page]; ok {
				p.t.Fatalf("the page %d belongs to %d and %d", page, other, k)
			}
			owner[page] = k
		}
	}
	for page := range p.p.Used() {
		if _, ok := owner[page]; !ok {
			p.t.Fatal("a page without an owner:", page)
		}
	}
}

func TestPlay(t *testing.T) { // P12.1 to P12.8
	ends := map[api.Errno]int{}
	for seed := range int64(150) {
		p := begin(t, rand.New(rand.NewSource(seed)))
		for step := range 150 {
			k := p.r.Intn(len(p.files))
			switch x := p.r.Intn(12); {
			case x < 6:
				p.write(k)
			case x < 8:
				p.truncate(k)
			case x < 11:
				p.read(k)
			case p.p.Commit(make([]byte, p.size-8)) != api.OK:
				t.Fatal("Commit")
			}
			if step%10 == 0 {
				p.same()
			}
			if t.Failed() {
				t.Fatal("seed", seed, "step", step)
			}
		}
		p.same()
		for k := range p.files {
			cuts(t, p.p, p.files[k], 0)
		}
		if p.p.Room() != p.all {
			t.Fatal("Room behind cuts to 0:", p.p.Room(), "not", p.all)
		}
		for e, n := range p.ends {
			ends[e] += n
		}
	}
	for _, e := range []api.Errno{api.OK, api.ErrArg, api.ErrBig, api.ErrSpace} {
		if ends[e] < 20 {
			t.Errorf("of the writings %d ended with %d", ends[e], e)
		}
	}
}

// spoilt is some inode that is no file's, and names pages of a pool most often.
func spoilt(r *rand.Rand, pages int) api.Inode {
	number := func() int {
		switch r.Intn(20) {
		case 0:
			return []int{-1, math.MinInt, math.MaxInt, 1 << 13, 1<<32 + 5, pages + 3, 1 << 16}[r.Intn(7)]
		case 1:
			return r.Intn(4) // of the table, or none
		}
		return r.Intn(pages + 4)
	}
	i := api.Inode{Kind: r.Intn(5) - 1, Links: r.Intn(9) - 2, Size: r.Int63n(1 << uint(1+r.Intn(40)))}
	if r.Intn(9) == 0 {
		i.Size = []int64{-1, math.MinInt64, math.MaxInt64, 1<<31 - 1, 1 << 31}[r.Intn(5)]
	}
	for k := range i.Direct {
		i.Direct[k] = number()
	}
	i.Single, i.Double = number(), number()
	if r.Intn(3) == 0 {
		i.Double = i.Single
	}
	return i
}

func TestInodesThatAreNoFiles(t *testing.T) { // P1
	for seed := range int64(300) {
		r := rand.New(rand.NewSource(seed))
		size := sizes[r.Intn(4)]
		_, _, p := fresh(t, size, 40)
		var table [3][]byte
		for page := 1; page <= 2; page++ {
			table[page] = full(size, byte(page))
			is(t, "Put", p.Put(page, table[page]), api.OK)
		}
		for range 15 + r.Intn(26) {
			page, _ := p.Alloc()
			b := make([]byte, size)
			for k := 0; k < size; k += 2 {
				if r.Intn(3) > 0 {
					b[k] = byte(r.Intn(45))
				}
				if r.Intn(50) == 0 {
					b[k+1] = byte(r.Intn(256))
				}
			}
			is(t, "Put", p.Put(page, b), api.OK)
		}
		for range 20 {
			i := spoilt(r, 40)
			off := []int64{0, r.Int63n(int64(6 * size)), r.Int63n(int64(size * size)), r.Int63n(1 << 40), math.MaxInt64}[r.Intn(5)]
			switch r.Intn(5) {
			case 0:
				Read(p, i, off, r.Intn(1025))
			case 1, 2:
				Write(p, i, off, full(r.Intn(1025), 1))
			case 3:
				Truncate(p, i, off)
			default:
				Pages(p, i)
				Takes(p, i)
				for range Owned(p, i) {
				}
			}
			// Whatever they name, the table's pages are no file's.
			for page := 1; page <= 2; page++ {
				if b, e := p.Get(page); e != api.OK || string(b) != string(table[page]) {
					t.Fatal("seed", seed, "the table's page", page, "changed")
				}
			}
		}
	}
}
