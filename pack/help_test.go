package pack

import (
	"bytes"
	"fmt"
	"math/rand"
	"strings"
	"testing"

	"cuneiform/api"
	"cuneiform/fs"
	"cuneiform/nand"
)

// is fails the test, if a call answered another error than it was to.
func is(t *testing.T, what string, got, want api.Errno) {
	t.Helper()
	if got != want {
		t.Errorf("%s: %d, not %d", what, got, want)
	}
}

func mounts(t *testing.T, c *nand.Chip) *fs.FS {
	t.Helper()
	f, e := fs.Mount(c)
	if e != api.OK || f == nil {
		t.Fatal("Mount:", f, e)
	}
	return f
}

// fresh is a new file system on a new chip.
func fresh(t *testing.T, blocks, pages, size int) (*nand.Chip, *fs.FS) {
	t.Helper()
	c, e := nand.New(api.Geo{Blocks: blocks, Pages: pages, Size: size}, nil)
	is(t, "New", e, api.OK)
	if e := fs.Format(c, 2); e != api.OK {
		t.Fatal("Format:", e)
	}
	return c, mounts(t, c)
}

// some is a new file system of 64 bytes a page, with 28 inodes.
func some(t *testing.T) (*nand.Chip, *fs.FS) {
	t.Helper()
	return fresh(t, 44, 8, 64)
}

// wide is a new file system that holds more than an archive may.
func wide(t *testing.T) *fs.FS {
	t.Helper()
	_, f := fresh(t, 128, 32, 512)
	return f
}

// again are two file systems on two chips that are alike, with what a third one has. That is committed by this.
func again(t *testing.T, c *nand.Chip, f *fs.FS) (chips [2]*nand.Chip, l [2]*fs.FS) {
	t.Helper()
	is(t, "Sync", f.Sync(), api.OK)
	for k := range l {
		chips[k] = c.Copy()
		l[k] = mounts(t, chips[k])
	}
	return chips, l
}

// put writes a text to a file from a place on, and makes the file, if it is not there. It ends with the first error.
func put(f *fs.FS, p string, at int64, text string) api.Errno {
	h, e := f.Open(p, fs.Writes|fs.Creates)
	if e != api.OK {
		return e
	}
	_, e = f.Seek(h, at, 0)
	for len(text) > 0 && e == api.OK {
		n := min(len(text), api.MaxIO)
		_, e = f.Write(h, []byte(text[:n]))
		text = text[n:]
	}
	f.Close(h)
	return e
}

// grows makes what is told: "/d/" a directory, "/a=x" a file with the text x, "/b>/a" another name of it.
func grows(t *testing.T, f *fs.FS, l ...string) {
	t.Helper()
	for _, s := range l {
		if p, text, ok := strings.Cut(s, "="); ok {
			is(t, "to put "+p, put(f, p, 0, text), api.OK)
		} else if p, old, ok := strings.Cut(s, ">"); ok {
			is(t, "Link of "+p, f.Link(old, p), api.OK)
		} else {
			is(t, "Mkdir of "+s, f.Mkdir(s), api.OK)
		}
	}
}

// textOf is what stands in a file.
func textOf(t *testing.T, f *fs.FS, p string) string {
	t.Helper()
	h, e := f.Open(p, fs.Reads)
	is(t, "Open of "+p, e, api.OK)
	var s strings.Builder
	for {
		b, e := f.Read(h, api.MaxIO)
		is(t, "Read of "+p, e, api.OK)
		if len(b) == 0 {
			break
		}
		s.Write(b)
	}
	is(t, "Close", f.Close(h), api.OK)
	return s.String()
}

// tells is all that is below a directory, as a text: paths from there on, Kinds, sizes, bytes, and which names are one file's; but no numbers of inodes.
func tells(t *testing.T, f *fs.FS, p string) string {
	t.Helper()
	base := strings.TrimSuffix(clean(p), "/")
	var b strings.Builder
	first := map[int]string{}
	for full, s := range f.Walk(p) {
		at := strings.TrimPrefix(full, base)
		fmt.Fprintf(&b, "%s %d", at, s.Kind)
		switch {
		case s.Kind == api.IDir:
		case first[s.Inode] != "":
			fmt.Fprint(&b, " is ", first[s.Inode])
		default:
			first[s.Inode] = at
			fmt.Fprintf(&b, " %d %q", s.Size, textOf(t, f, full))
		}
		fmt.Fprintln(&b)
	}
	return b.String()
}

// holds is all that a file system holds, as a text.
func holds(t *testing.T, f *fs.FS) string {
	t.Helper()
	all, e := f.StatFS()
	is(t, "StatFS", e, api.OK)
	var b strings.Builder
	fmt.Fprintln(&b, all)
	for p, s := range f.Walk("/") {
		fmt.Fprintln(&b, p, s)
	}
	return b.String() + tells(t, f, "/")
}

// sameChips fails the test, if two chips hold something else, or were used in another way.
func sameChips(t *testing.T, a, b *nand.Chip) {
	t.Helper()
	if a.Strokes() != b.Strokes() || a.Up() != b.Up() {
		t.Error("strokes:", a.Strokes(), a.Up(), "and", b.Strokes(), b.Up())
	}
	pa, ba, wa := a.Dump()
	pb, bb, wb := b.Dump()
	if fmt.Sprint(ba, wa) != fmt.Sprint(bb, wb) {
		t.Error("the blocks are unlike")
	}
	for k := range pa {
		if !bytes.Equal(pa[k], pb[k]) {
			t.Fatal("the page is unlike:", k)
		}
	}
}

// uses opens a file with so many handles.
func uses(t *testing.T, f *fs.FS, p string, n int) {
	t.Helper()
	for range n {
		_, e := f.Open(p, fs.Reads)
		is(t, "Open of "+p, e, api.OK)
	}
}

// free fails the test, if not just so many handles are free.
func free(t *testing.T, f *fs.FS, p string, want int) {
	t.Helper()
	var l []int
	for {
		h, e := f.Open(p, fs.Reads)
		if e != api.OK {
			is(t, "Open", e, api.ErrHandles)
			break
		}
		l = append(l, h)
	}
	for _, h := range l {
		is(t, "Close", f.Close(h), api.OK)
	}
	if len(l) != want {
		t.Errorf("%d handles are free, not %d", len(l), want)
	}
}

// noise is a text by chance, which is not to be squeezed but for a byte or two.
func noise(r *rand.Rand, n int) string {
	b := make([]byte, n)
	r.Read(b)
	return string(b)
}

// plants makes something by chance below a directory.
func plants(r *rand.Rand, f *fs.FS, base string, steps int) {
	var all []string
	for p := range f.Walk(base + "/") {
		all = append(all, p)
	}
	for range steps {
		p := base + "/" + string("abcdef"[r.Intn(6)])
		if len(all) > 0 && r.Intn(2) == 0 {
			p = all[r.Intn(len(all))] + "/" + string("abc"[r.Intn(3)])
		}
		all = append(all, p)
		old := all[r.Intn(len(all))]
		size := []int64{0, 1, 63, 64, 65, 1023, 1024, 1025, 2048, 3000, 5120}[r.Intn(11)]
		switch r.Intn(9) {
		case 0, 1:
			f.Mkdir(p)
		case 2:
			put(f, p, size, noise(r, r.Intn(100)))
		case 3:
			put(f, p, 0, strings.Repeat(noise(r, 1+r.Intn(9)), r.Intn(200)))
		case 4:
			put(f, p, size, strings.Repeat("\x00", r.Intn(100)))
		case 5:
			f.Truncate(old, size)
		case 6:
			f.Unlink(old)
		default:
			f.Link(old, p)
		}
	}
}
