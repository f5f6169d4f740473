package fs

import (
	"fmt"
	"slices"
	"strings"
	"testing"

	"cuneiform/api"
	"cuneiform/nand"
	"cuneiform/node"
)

var sizes = []int{64, 128, 256, 512}

// is fails the test, if a call answered another error than it was to.
func is(t *testing.T, what string, got, want api.Errno) {
	t.Helper()
	if got != want {
		t.Errorf("%s: %d, not %d", what, got, want)
	}
}

func newChip(t *testing.T, blocks, pages, size int, bad ...int) *nand.Chip {
	t.Helper()
	c, e := nand.New(api.Geo{Blocks: blocks, Pages: pages, Size: size}, bad)
	if e != api.OK {
		t.Fatal("New:", e)
	}
	return c
}

func mounts(t *testing.T, c *nand.Chip) *FS {
	t.Helper()
	f, e := Mount(c)
	if e != api.OK || f == nil {
		t.Fatal("Mount:", f, e)
	}
	return f
}

// fresh is a new file system on a new chip.
func fresh(t *testing.T, blocks, pages, size, reserve int) (*nand.Chip, *FS) {
	t.Helper()
	c := newChip(t, blocks, pages, size)
	if e := Format(c, reserve); e != api.OK {
		t.Fatal("Format:", e)
	}
	return c, mounts(t, c)
}

// some is a new file system of 64 bytes a page, with 81 pages and 10 inodes.
func some(t *testing.T) (*nand.Chip, *FS) {
	t.Helper()
	return fresh(t, 22, 8, 64, 2)
}

// opens opens a file, and fails the test, if it is refused, or the handle is another one.
func opens(t *testing.T, f *FS, p string, flags, want int) {
	t.Helper()
	if h, e := f.Open(p, flags); h != want || e != api.OK {
		t.Fatalf("Open of %q with %d: %d, %d, not %d", p, flags, h, e, want)
	}
}

// refuses fails the test, if a file is opened, or refused with another error.
func refuses(t *testing.T, f *FS, p string, flags int, want api.Errno) {
	t.Helper()
	if h, e := f.Open(p, flags); h != 0 || e != want {
		t.Errorf("Open of %q with %d: %d, %d, not %d", p, flags, h, e, want)
	}
}

// reads fails the test, if something else is read.
func reads(t *testing.T, f *FS, h, n int, want string) {
	t.Helper()
	if b, e := f.Read(h, n); string(b) != want || e != api.OK {
		t.Errorf("Read of %d at %d: %q, %d, not %q", n, h, b, e, want)
	}
}

func writes(t *testing.T, f *FS, h int, s string) {
	t.Helper()
	if n, e := f.Write(h, []byte(s)); n != len(s) || e != api.OK {
		t.Errorf("Write of %d bytes at %d: %d, %d", len(s), h, n, e)
	}
}

func seeks(t *testing.T, f *FS, h int, off int64, from int, want int64) {
	t.Helper()
	if at, e := f.Seek(h, off, from); at != want || e != api.OK {
		t.Errorf("Seek at %d of %d from %d: %d, %d, not %d", h, off, from, at, e, want)
	}
}

// holds fails the test, if what is told of a path is something else.
func holds(t *testing.T, f *FS, p string, want api.Stat) {
	t.Helper()
	if s, e := f.Stat(p); s != want || e != api.OK {
		t.Errorf("Stat of %q: %v, %d, not %v", p, s, e, want)
	}
}

// lists fails the test, if a directory has other entries.
func lists(t *testing.T, f *FS, p string, want ...api.Entry) {
	t.Helper()
	if l, e := f.List(p); !slices.Equal(l, want) || e != api.OK {
		t.Errorf("List of %q: %v, %d, not %v", p, l, e, want)
	}
}

// walks fails the test, if below a path there are others.
func walks(t *testing.T, f *FS, p string, want ...string) {
	t.Helper()
	var l []string
	for at, s := range f.Walk(p) {
		l = append(l, at)
		if got, e := f.Stat(at); got != s || e != api.OK {
			t.Errorf("Walk of %q: at %q %v, but Stat: %v, %d", p, at, s, got, e)
		}
	}
	if !slices.Equal(l, want) {
		t.Errorf("Walk of %q: %q, not %q", p, l, want)
	}
}

// grows makes directories and files: names that end with / are directories', in all others stands the name itself.
func grows(t *testing.T, f *FS, l ...string) {
	t.Helper()
	for _, p := range l {
		if strings.HasSuffix(p, "/") {
			is(t, "Mkdir of "+p, f.Mkdir(p), api.OK)
			continue
		}
		h, e := f.Open(p, Writes|Creates|Only)
		is(t, "Open of "+p, e, api.OK)
		writes(t, f, h, p)
		is(t, "Close", f.Close(h), api.OK)
	}
}

// textOf is what stands in an inode's file, page by page, as a text like that of a plain one.
func textOf(t *testing.T, f *FS, n int) string {
	t.Helper()
	i, e := f.t.Inode(n)
	is(t, "Inode", e, api.OK)
	p := f.t.Pool()
	var s strings.Builder
	for _, k := range node.Pages(p, i) {
		b, e := node.Read(p, i, int64(k)*int64(p.Size()), p.Size())
		is(t, "node.Read", e, api.OK)
		fmt.Fprintf(&s, " %d %x", k, b)
	}
	return s.String()
}

// tells is all that a file system has, as a text like that of a plain one.
func tells(t *testing.T, f *FS) string {
	t.Helper()
	var b strings.Builder
	all, e := f.StatFS()
	is(t, "StatFS", e, api.OK)
	all.ReadOnly = false
	s, e := f.Stat("/")
	is(t, "Stat of /", e, api.OK)
	fmt.Fprintln(&b, all, s)
	for p, s := range f.Walk("/") {
		text := ""
		if s.Kind == api.IFile {
			text = textOf(t, f, s.Inode)
		}
		fmt.Fprintf(&b, "%s %v%s\n", p, s, text)
	}
	return b.String()
}

// seen is all that can be seen of a file system: what it has, and its handles.
func seen(t *testing.T, f *FS) string {
	t.Helper()
	return tells(t, f) + fmt.Sprint(f.handles)
}

// losing takes the power of a chip, and mounts it anew.
func losing(t *testing.T, c *nand.Chip) *FS {
	t.Helper()
	c.Lose()
	c.Start()
	return mounts(t, c)
}

// call is a call of a file system, and the error that it answers.
type call struct {
	name    string
	changes bool // whether it is one that may change the file system
	do      func(f *FS) api.Errno
}

// zeroed is the error, or -1, if there is one and what is answered beside it is not the zero value.
func zeroed(zero bool, e api.Errno) api.Errno {
	if e != api.OK && !zero {
		return -1
	}
	return e
}

// calls are all calls. Of a file system with a file /a, on which the handle 0 is open, a directory /d, and nothing else, none is refused but for what they all answer first.
func calls() []call {
	return []call{
		{"Open", false, func(f *FS) api.Errno { h, e := f.Open("/a", Reads|Writes|Appends); return zeroed(h == 0, e) }},
		{"Close", false, func(f *FS) api.Errno { return f.Close(0) }},
		{"Read", false, func(f *FS) api.Errno { b, e := f.Read(0, 9); return zeroed(len(b) == 0, e) }},
		{"Seek", false, func(f *FS) api.Errno { at, e := f.Seek(0, 3, 0); return zeroed(at == 0, e) }},
		{"List", false, func(f *FS) api.Errno { l, e := f.List("/"); return zeroed(len(l) == 0, e) }},
		{"Stat", false, func(f *FS) api.Errno { s, e := f.Stat("/a"); return zeroed(s == api.Stat{}, e) }},
		{"StatFS", false, func(f *FS) api.Errno { s, e := f.StatFS(); return zeroed(s == api.StatFS{}, e) }},
		{"Open to create", true, func(f *FS) api.Errno { h, e := f.Open("/b", Reads|Creates); return zeroed(h == 0, e) }},
		{"Open to cut", true, func(f *FS) api.Errno { h, e := f.Open("/a", Writes|Cuts); return zeroed(h == 0, e) }},
		{"Write", true, func(f *FS) api.Errno { n, e := f.Write(0, []byte("x")); return zeroed(n == 0, e) }},
		{"Truncate", true, func(f *FS) api.Errno { return f.Truncate("/a", 2) }},
		{"Mkdir", true, func(f *FS) api.Errno { return f.Mkdir("/e") }},
		{"Rmdir", true, func(f *FS) api.Errno { return f.Rmdir("/d") }},
		{"Link", true, func(f *FS) api.Errno { return f.Link("/a", "/b") }},
		{"Unlink", true, func(f *FS) api.Errno { return f.Unlink("/a") }},
		{"Rename", true, func(f *FS) api.Errno { return f.Rename("/a", "/b") }},
		{"Fsync", true, func(f *FS) api.Errno { return f.Fsync(0) }},
		{"Sync", true, func(f *FS) api.Errno { return f.Sync() }},
		{"Unmount", true, func(f *FS) api.Errno { return f.Unmount() }},
	}
}

// wrongCalls are calls that are refused in any case: to see what is named ahead of that.
func wrongCalls() []call {
	return []call{
		{"Open", false, func(f *FS) api.Errno { h, e := f.Open("", Reads); return zeroed(h == 0, e) }},
		{"Close", false, func(f *FS) api.Errno { return f.Close(7) }},
		{"Read", false, func(f *FS) api.Errno { b, e := f.Read(-1, -1); return zeroed(len(b) == 0, e) }},
		{"Seek", false, func(f *FS) api.Errno { at, e := f.Seek(16, -1, 9); return zeroed(at == 0, e) }},
		{"List", false, func(f *FS) api.Errno { l, e := f.List("a"); return zeroed(len(l) == 0, e) }},
		{"Stat", false, func(f *FS) api.Errno { s, e := f.Stat("/x/y"); return zeroed(s == api.Stat{}, e) }},
		{"Open to create", true, func(f *FS) api.Errno { h, e := f.Open("/", Reads|Creates); return zeroed(h == 0, e) }},
		{"Open to cut", true, func(f *FS) api.Errno { h, e := f.Open("/x/.", Writes|Cuts); return zeroed(h == 0, e) }},
		{"Write", true, func(f *FS) api.Errno { n, e := f.Write(-1, make([]byte, 9999)); return zeroed(n == 0, e) }},
		{"Truncate", true, func(f *FS) api.Errno { return f.Truncate("/", -2) }},
		{"Mkdir", true, func(f *FS) api.Errno { return f.Mkdir("/") }},
		{"Rmdir", true, func(f *FS) api.Errno { return f.Rmdir("") }},
		{"Link", true, func(f *FS) api.Errno { return f.Link("/", "") }},
		{"Unlink", true, func(f *FS) api.Errno { return f.Unlink("/..") }},
		{"Rename", true, func(f *FS) api.Errno { return f.Rename("", "/") }},
		{"Fsync", true, func(f *FS) api.Errno { return f.Fsync(99) }},
	}
}
