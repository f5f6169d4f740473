package guard

import (
	"bytes"
	"fmt"
	"math/rand"
	"strings"
	"testing"

	"cuneiform/api"
	"cuneiform/fs"
	"cuneiform/nand"
)

// is fails the test, if a call answered another error than it was to.
func is(t *testing.T, what string, got, want api.Errno) {
	t.Helper()
	if got != want {
		t.Errorf("%s: %d, not %d", what, got, want)
	}
}

func mounts(t *testing.T, c *nand.Chip) *fs.FS {
	t.Helper()
	f, e := fs.Mount(c)
	if e != api.OK || f == nil {
		t.Fatal("Mount:", f, e)
	}
	return f
}

// fresh is a new file system on a new chip.
func fresh(t *testing.T, blocks, pages, size int) (*nand.Chip, *fs.FS) {
	t.Helper()
	c, e := nand.New(api.Geo{Blocks: blocks, Pages: pages, Size: size}, nil)
	is(t, "New", e, api.OK)
	is(t, "Format", fs.Format(c, 2), api.OK)
	return c, mounts(t, c)
}

// some is a new file system of 64 bytes a page, and few inodes.
func some(t *testing.T) (*nand.Chip, *fs.FS) {
	t.Helper()
	return fresh(t, 44, 8, 64)
}

// wide is a new file system with room for the greatest files that may be guarded, and their guards.
func wide(t *testing.T) (*nand.Chip, *fs.FS) {
	t.Helper()
	return fresh(t, 64, 16, 256)
}

// put writes bytes to a file from a place on, and makes the file, if it is not there. It ends with the first error.
func put(f *fs.FS, p string, at int, b []byte) api.Errno {
	h, e := f.Open(p, fs.Writes|fs.Creates)
	if e != api.OK {
		return e
	}
	_, e = f.Seek(h, int64(at), 0)
	for len(b) > 0 && e == api.OK {
		n := min(len(b), api.MaxIO)
		_, e = f.Write(h, b[:n])
		b = b[n:]
	}
	f.Close(h)
	return e
}

// has makes a file of these bytes alone, in the place of what was there.
func has(t *testing.T, f *fs.FS, p string, b []byte) {
	t.Helper()
	f.Unlink(p)
	is(t, "to write "+p, put(f, p, 0, b), api.OK)
}

// hole makes a file of so many bytes, of which no page is there.
func hole(t *testing.T, f *fs.FS, p string, size int) {
	t.Helper()
	has(t, f, p, nil)
	is(t, "Truncate of "+p, f.Truncate(p, int64(size)), api.OK)
}

// bytesOf is what stands in a file.
func bytesOf(t *testing.T, f *fs.FS, p string) []byte {
	t.Helper()
	h, e := f.Open(p, fs.Reads)
	is(t, "Open of "+p, e, api.OK)
	var all []byte
	for {
		b, e := f.Read(h, api.MaxIO)
		is(t, "Read of "+p, e, api.OK)
		if len(b) == 0 {
			break
		}
		all = append(all, b...)
	}
	is(t, "Close", f.Close(h), api.OK)
	return all
}

// stands fails the test, if other bytes stand in a file.
func stands(t *testing.T, f *fs.FS, p string, want []byte) {
	t.Helper()
	if got := bytesOf(t, f, p); !bytes.Equal(got, want) {
		t.Errorf("in %s stand %s, not %s", p, short(got), short(want))
	}
}

// turn turns a bit of a file, and writes no other byte than its own.
func turn(t *testing.T, f *fs.FS, p string, bit int) {
	t.Helper()
	b := bytesOf(t, f, p)[bit/8]
	is(t, "to turn a bit", put(f, p, bit/8, []byte{b ^ 1<<(bit%8)}), api.OK)
}

// holds is all that a file system holds, as a text.
func holds(t *testing.T, f *fs.FS) string {
	t.Helper()
	all, e := f.StatFS()
	is(t, "StatFS", e, api.OK)
	var b strings.Builder
	fmt.Fprintln(&b, all)
	for p, s := range f.Walk("/") {
		fmt.Fprintln(&b, p, s)
		if s.Kind == api.IFile && s.Size <= 1<<17 {
			fmt.Fprintf(&b, "%x\n", bytesOf(t, f, p))
		}
	}
	return b.String()
}

// sameChips fails the test, if two chips hold something else, or were used in another way.
func sameChips(t *testing.T, a, b *nand.Chip) {
	t.Helper()
	if a.Strokes() != b.Strokes() || a.Up() != b.Up() {
		t.Error("strokes:", a.Strokes(), a.Up(), "and", b.Strokes(), b.Up())
	}
	pa, ba, wa := a.Dump()
	pb, bb, wb := b.Dump()
	if fmt.Sprint(ba, wa) != fmt.Sprint(bb, wb) {
		t.Error("the blocks are unlike")
	}
	for k := range pa {
		if !bytes.Equal(pa[k], pb[k]) {
			t.Fatal("the page is unlike:", k)
		}
	}
}

// uses opens a file with so many handles.
func uses(t *testing.T, f *fs.FS, p string, n int) {
	t.Helper()
	for range n {
		_, e := f.Open(p, fs.Reads)
		is(t, "Open of "+p, e, api.OK)
	}
}

// free fails the test, if not just so many handles are free.
func free(t *testing.T, f *fs.FS, p string, want int) {
	t.Helper()
	var l []int
	for {
		h, e := f.Open(p, fs.Reads)
		if e != api.OK {
			is(t, "Open", e, api.ErrHandles)
			break
		}
		l = append(l, h)
	}
	for _, h := range l {
		is(t, "Close", f.Close(h), api.OK)
	}
	if len(l) != want {
		t.Errorf("%d handles are free, not %d", len(l), want)
	}
}

// fills writes to a file until just so many pages are free.
func fills(t *testing.T, f *fs.FS, p string, left int) {
	t.Helper()
	for at := 0; ; at += 64 {
		s, e := f.StatFS()
		is(t, "StatFS", e, api.OK)
		if s.Pages-s.UsedPages <= left {
			return
		}
		is(t, "to fill", put(f, p, at, []byte{1}), api.OK)
	}
}

// wears lets so much fail that nothing can be changed any more.
func wears(t *testing.T, c *nand.Chip, f *fs.FS) {
	t.Helper()
	is(t, "to change", put(f, "/wears", 0, []byte{1}), api.OK)
	is(t, "Script", c.Script([]api.Fault{{At: 0, Kind: api.Failed}, {At: 1, Kind: api.Failed}, {At: 2, Kind: api.Failed}}), api.OK)
	is(t, "Sync where too much fails", f.Sync(), api.ErrReadOnly)
}

// noise are n bytes by chance.
func noise(r *rand.Rand, n int) []byte {
	b := make([]byte, n)
	r.Read(b)
	return b
}

// short is a text of bytes, or of the first ones of many.
func short(b []byte) string {
	if len(b) > 40 {
		return fmt.Sprintf("%v.. (%d bytes)", b[:40], len(b))
	}
	return fmt.Sprint(b)
}

// wrongPaths are some that are refused, with their errors, where /f is a file and /d a directory.
var wrongPaths = map[string]api.Errno{
	"": api.ErrPath, "f": api.ErrPath, "/f" + strings.Repeat("/", 254): api.ErrPath, strings.Repeat("/d", 17): api.ErrPath,
	"/.": api.ErrName, "/d/..": api.ErrName, "/abcdefghijklmn": api.ErrName, "/f/g": api.ErrNotDir, "/none/g": api.ErrNoEntry,
	"/d": api.ErrIsDir, "/d/": api.ErrIsDir,
}
