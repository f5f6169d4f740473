package hist

import (
	"bytes"
	"fmt"
	"hash/crc32"
	"math"
	"strings"
	"testing"

	"cuneiform/api"
	"cuneiform/fs"
	"cuneiform/nand"
)

// is fails the test, if a call answered another error than it was to.
func is(t *testing.T, what string, got, want api.Errno) {
	t.Helper()
	if got != want {
		t.Errorf("%s: %d, not %d", what, got, want)
	}
}

// alike tells whether two answers are the same.
func alike(a, b Answer) bool {
	return a.Err == b.Err && a.N == b.N && string(a.Bytes) == string(b.Bytes)
}

// answers fails the test, if an answer is another one.
func answers(t *testing.T, what string, got, want Answer) {
	t.Helper()
	if !alike(got, want) {
		t.Errorf("%s: %v, not %v", what, got, want)
	}
}

// shown is an operation as a text, whatever is in it.
func shown(o Op) string {
	return fmt.Sprintf("%d %.40q (%d) %.40q (%d) %d %d %d %.20x (%d)", o.Kind, o.Path, len(o.Path), o.To, len(o.To), o.Handle, o.N, o.Off, o.Bytes, len(o.Bytes))
}

// sameOp tells whether two operations are the same.
func sameOp(a, b Op) bool {
	return a.Kind == b.Kind && a.Path == b.Path && a.To == b.To && a.Handle == b.Handle && a.N == b.N && a.Off == b.Off && bytes.Equal(a.Bytes, b.Bytes)
}

// sameOps fails the test, if there are others.
func sameOps(t *testing.T, what string, got, want []Op) {
	t.Helper()
	if len(got) != len(want) {
		t.Errorf("%s: %d operations, not %d", what, len(got), len(want))
		return
	}
	for k, o := range got {
		if !sameOp(o, want[k]) {
			t.Fatalf("%s: the operation %d is %s, not %s", what, k, shown(o), shown(want[k]))
		}
	}
}

func mounts(t *testing.T, c *nand.Chip) *fs.FS {
	t.Helper()
	f, e := fs.Mount(c)
	if e != api.OK || f == nil {
		t.Fatal("Mount:", f, e)
	}
	return f
}

// fresh is a new file system on a new chip.
func fresh(t *testing.T, g api.Geo, reserve int) (*nand.Chip, *fs.FS) {
	t.Helper()
	c, e := nand.New(g, nil)
	is(t, "New", e, api.OK)
	is(t, "Format", fs.Format(c, reserve), api.OK)
	return c, mounts(t, c)
}

// little is a new file system with few pages and inodes.
func little(t *testing.T) (*nand.Chip, *fs.FS) {
	t.Helper()
	return fresh(t, api.Geo{Blocks: 22, Pages: 8, Size: 64}, 2)
}

// some is a new file system with a file /a, at which the handle 0 is open, a file /b, an empty one /e, and a directory /d.
func some(t *testing.T) (*nand.Chip, *fs.FS) {
	t.Helper()
	c, f := fresh(t, api.Geo{Blocks: 44, Pages: 8, Size: 64}, 2)
	for _, p := range []string{"/a", "/b", "/e"} {
		h, e := f.Open(p, fs.Reads|fs.Writes|fs.Creates)
		is(t, "Open", e, api.OK)
		if p != "/e" {
			_, e = f.Write(h, []byte("in "+p))
			is(t, "Write", e, api.OK)
		}
		if p != "/a" {
			is(t, "Close", f.Close(h), api.OK)
		}
	}
	is(t, "Mkdir", f.Mkdir("/d"), api.OK)
	is(t, "Sync", f.Sync(), api.OK)
	return c, f
}

// unmounted is a file system that was one.
func unmounted(t *testing.T) *fs.FS {
	t.Helper()
	_, f := little(t)
	is(t, "Unmount", f.Unmount(), api.OK)
	return f
}

// textOf is what stands in a file.
func textOf(t *testing.T, f *fs.FS, p string) string {
	t.Helper()
	h, e := f.Open(p, fs.Reads)
	is(t, "Open of "+p, e, api.OK)
	defer f.Close(h)
	var s strings.Builder
	for {
		b, e := f.Read(h, api.MaxIO)
		is(t, "Read of "+p, e, api.OK)
		if len(b) == 0 {
			return s.String()
		}
		s.Write(b)
	}
}

// holds is all that a file system holds, as a text: behind it all handles are closed.
func holds(t *testing.T, f *fs.FS) string {
	t.Helper()
	var b strings.Builder
	for h := range api.MaxHandles {
		if at, e := f.Seek(h, 0, 1); e == api.OK {
			fmt.Fprintf(&b, "%d at %d\n", h, at)
			is(t, "Close", f.Close(h), api.OK)
		}
	}
	all, e := f.StatFS()
	is(t, "StatFS", e, api.OK)
	fmt.Fprintln(&b, all)
	for p, s := range f.Walk("/") {
		fmt.Fprintln(&b, p, s)
		if s.Kind == api.IFile && s.Size <= 1<<14 {
			fmt.Fprintf(&b, "%08x\n", crc32.ChecksumIEEE([]byte(textOf(t, f, p))))
		}
	}
	return b.String()
}

// held fails the test, if a file system holds something else.
func held(t *testing.T, f *fs.FS, want string) {
	t.Helper()
	if got := holds(t, f); got != want {
		t.Errorf("there is\n%s\nnot\n%s", got, want)
	}
}

// sameHeld fails the test, if two file systems hold something else.
func sameHeld(t *testing.T, f, g *fs.FS) {
	t.Helper()
	held(t, f, holds(t, g))
}

// sameChips fails the test, if two chips hold something else, or were used in another way.
func sameChips(t *testing.T, a, b *nand.Chip) {
	t.Helper()
	if a.Strokes() != b.Strokes() || a.Up() != b.Up() {
		t.Error("strokes:", a.Strokes(), a.Up(), "and", b.Strokes(), b.Up())
	}
	pa, ba, wa := a.Dump()
	pb, bb, wb := b.Dump()
	if fmt.Sprint(ba, wa) != fmt.Sprint(bb, wb) {
		t.Error("the blocks are unlike")
	}
	for k := range pa {
		if !bytes.Equal(pa[k], pb[k]) {
			t.Fatal("the page is unlike:", k)
		}
	}
}

// twins are two file systems on two chips that are alike: with the first one what the document says is done call by call, with the other one what is tested.
type twins struct {
	c [2]*nand.Chip
	f [2]*fs.FS
}

// newTwins are two that are new.
func newTwins(t *testing.T, g api.Geo, reserve int) *twins {
	t.Helper()
	x := &twins{}
	for k := range x.c {
		x.c[k], x.f[k] = fresh(t, g, reserve)
	}
	return x
}

// does fails the test, if Do answers or does something else than the document says.
func (x *twins) does(t *testing.T, o Op) Answer {
	t.Helper()
	want, got := doTold(x.f[0], o), Do(x.f[1], o)
	answers(t, shown(o), got, want)
	if x.c[0].Strokes() != x.c[1].Strokes() || x.c[0].Up() != x.c[1].Up() {
		t.Fatal(shown(o), "used the chip in another way")
	}
	return got
}

// wrongs are operations of a kind that are not right, each by one field that is beyond its edge.
func wrongs(kind int) []Op {
	var l []Op
	with := func(how func(o *Op)) {
		o := Op{Kind: kind, Path: "/a", To: "/new", Bytes: []byte("xyz")}
		if kind == 1 {
			o.N = 7
		}
		how(&o)
		l = append(l, o)
	}
	for _, n := range []int{256, 257, 511, 1 << 16, 1<<16 + 2} {
		with(func(o *Op) { o.Path = "/a" + strings.Repeat("/", n-2) })
		with(func(o *Op) { o.To = "/x" + strings.Repeat("/", n-2) })
	}
	for _, n := range []int{1025, 2048, 1<<16 + 3} {
		with(func(o *Op) { o.Bytes = make([]byte, n) })
	}
	for _, n := range []int{math.MinInt32 - 1, math.MaxInt32 + 1, 1 << 32, 1<<32 + 7, -1 << 32, math.MaxInt, math.MinInt} {
		with(func(o *Op) { o.Handle = n })
		with(func(o *Op) { o.N = n })
	}
	return l
}

// allWrongs are operations that are not right, of all kinds and of none.
func allWrongs() []Op {
	var l []Op
	for _, kind := range []int{0, -1, 15, 16, 255, 256, 257, 1 << 32, 1<<32 + 1, math.MinInt, math.MaxInt} {
		l = append(l, Op{Kind: kind}, Op{Kind: kind, Path: "/a", To: "/new", N: 7, Bytes: []byte("x")})
	}
	for kind := 1; kind <= 14; kind++ {
		l = append(l, wrongs(kind)...)
	}
	return append(l, Op{})
}

// edges are operations of a kind that are just right, with more than they use.
func edges(kind int) []Op {
	o := Op{Kind: kind, Path: "/a" + strings.Repeat("/", 253), To: "/new" + strings.Repeat("/", 251), Bytes: bytes.Repeat([]byte{7}, 1024), Off: math.MaxInt64}
	if kind == 1 {
		o.N = 7
	}
	l := []Op{o}
	for _, n := range []int{math.MinInt32, math.MaxInt32, -1} {
		o.Handle, o.Off = n, int64(n)
		l = append(l, o)
		o.N = n
		l = append(l, o)
	}
	o.Off = math.MinInt64
	return append(l, o)
}
