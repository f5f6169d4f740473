package fs

import (
	"math"
	"strings"
	"testing"

	"cuneiform/api"
	"cuneiform/inode"
)

func TestFlags(t *testing.T) { // P15.2
	has := func(flags, some int) bool { return flags&some != 0 }
	n := 0
	for _, flags := range append(upTo(70), -1, -2, -64, 64, 65, 127, 128, math.MaxInt, math.MinInt, math.MinInt+1, 1<<32+1) {
		_, f := some(t)
		ok := flags >= 0 && flags < 64 && (has(flags, Reads) || has(flags, Writes))
		ok = ok && !(has(flags, Only) && !has(flags, Creates)) && !(has(flags, Cuts) && !has(flags, Writes)) && !(has(flags, Appends) && !has(flags, Writes))
		if !ok {
			refuses(t, f, "/a", flags, api.ErrArg)
			refuses(t, f, "", flags, api.ErrArg)
			refuses(t, nil, "/a", flags, api.ErrArg)
			lists(t, f, "/")
			continue
		}
		n++
		if has(flags, Creates) {
			opens(t, f, "/a", flags, 0)
		} else {
			refuses(t, f, "/a", flags, api.ErrNoEntry)
		}
		refuses(t, nil, "/a", flags, api.ErrNil)
	}
	if n != 27 {
		t.Error("so many flags are right:", n)
	}
	// Wrong flags are named ahead of all else.
	c, f := ready(t)
	c.Lose()
	refuses(t, f, "/a", 0, api.ErrArg)
	refuses(t, f, "/a", Reads, api.ErrDown)
	_, f = readOnly(t)
	refuses(t, f, "/a", Creates, api.ErrArg)
	refuses(t, f, "/a", Reads|Creates, api.ErrReadOnly)
}

// upTo are the numbers from 0 on, so many.
func upTo(n int) []int {
	l := make([]int, n)
	for k := range l {
		l[k] = k
	}
	return l
}

func TestOpenOfWhatMayNotBe(t *testing.T) { // P15.2, P15.10
	_, f := some(t)
	grows(t, f, "/d/", "/d/a", "/a")
	for h := range 16 { // that ErrHandles is named behind all these
		if h > 0 {
			before := seen(t, f)
			for _, flags := range []int{Reads, Writes, Reads | Writes | Creates, Reads | Creates | Only, Writes | Cuts, Writes | Creates | Cuts, Writes | Appends} {
				for _, p := range noPaths {
					refuses(t, f, p.text, flags, p.want)
				}
				for _, p := range []string{"/", "//", strings.Repeat("/", 255)} {
					refuses(t, f, p, flags, api.ErrRoot)
				}
				for _, p := range []string{"/x/a", "/d/x/a", "/x/y/z"} {
					refuses(t, f, p, flags, api.ErrNoEntry)
				}
				for _, p := range []string{"/a/a", "/a/x/y", "/d/a/a"} {
					refuses(t, f, p, flags, api.ErrNotDir)
				}
				want := api.ErrIsDir
				if flags&Only != 0 {
					want = api.ErrExist
					refuses(t, f, "/a", flags, want)
					refuses(t, f, "//d//a/", flags, want)
				}
				refuses(t, f, "/d", flags, want)
				if flags&Creates == 0 {
					refuses(t, f, "/x", flags, api.ErrNoEntry)
					refuses(t, f, "/d/x", flags, api.ErrNoEntry)
				}
			}
			if got := seen(t, f); got != before {
				t.Fatalf("what was refused changed:\n%s\nto:\n%s", before, got)
			}
		}
		opens(t, f, "/a", Reads, h)
	}
	before := seen(t, f)
	for _, flags := range []int{Reads, Writes | Cuts, Writes | Creates, Writes | Creates | Cuts} {
		refuses(t, f, "/a", flags, api.ErrHandles)
	}
	for _, flags := range []int{Reads | Creates, Writes | Creates | Only} {
		refuses(t, f, "/x", flags, api.ErrHandles)
	}
	if got := seen(t, f); got != before {
		t.Errorf("without a handle that is free:\n%s\nbecame:\n%s", before, got)
	}
}

func TestOpen(t *testing.T) { // P15.2
	_, f := some(t)
	is(t, "Mkdir", f.Mkdir("/d"), api.OK)
	// A file that is made is empty, and has one link and the first free inode.
	opens(t, f, "/d/a", Reads|Creates, 0)
	holds(t, f, "/d/a", api.Stat{Inode: 3, Kind: api.IFile, Links: 1})
	opens(t, f, "//b/", Writes|Creates|Only, 1)
	holds(t, f, "/b", api.Stat{Inode: 4, Kind: api.IFile, Links: 1})
	writes(t, f, 1, "0123456789")
	is(t, "Unlink", f.Unlink("/d/a"), api.OK)
	is(t, "Close", f.Close(0), api.OK)
	opens(t, f, "/c", Writes|Creates|Cuts|Appends, 0)
	holds(t, f, "/c", api.Stat{Inode: 3, Kind: api.IFile, Links: 1})
	// One that is there is as it was; each handle has a place of its own.
	opens(t, f, "/b", Reads|Writes|Creates, 2)
	reads(t, f, 2, 4, "0123")
	opens(t, f, "/b", Reads|Writes|Creates|Appends, 3)
	reads(t, f, 3, 6, "012345")
	reads(t, f, 2, 4, "4567")
	// The lowest free number is taken.
	for _, h := range []int{2, 0} {
		is(t, "Close", f.Close(h), api.OK)
	}
	opens(t, f, "/b", Reads, 0)
	opens(t, f, "/b", Reads, 2)
	opens(t, f, "/b", Reads, 4)
	reads(t, f, 2, 4, "0123")
	// With Cuts it is cut to 0, for all that are open on it.
	opens(t, f, "/b", Writes|Cuts, 5)
	holds(t, f, "/b", api.Stat{Inode: 4, Kind: api.IFile, Links: 1})
	reads(t, f, 3, 9, "")
	seeks(t, f, 3, 0, 1, 6)
	writes(t, f, 5, "ab")
	writes(t, f, 1, "c")
	seeks(t, f, 3, 0, 0, 0)
	reads(t, f, 3, 99, "ab\x00\x00\x00\x00\x00\x00\x00\x00c")
}

func TestOpenWithoutInodesOrPages(t *testing.T) { // P15.2, P15.10, P15.12
	_, f := some(t)
	for n := range 9 {
		is(t, "Mkdir", f.Mkdir("/"+string(rune('a'+n))), api.OK)
	}
	before := seen(t, f)
	refuses(t, f, "/x", Reads|Creates, api.ErrSpace)
	refuses(t, f, "/a/x", Reads|Creates, api.ErrSpace)
	is(t, "Mkdir", f.Mkdir("/a/x"), api.ErrSpace)
	if got := seen(t, f); got != before {
		t.Errorf("what was refused changed:\n%s\nto:\n%s", before, got)
	}
	is(t, "Rmdir", f.Rmdir("/i"), api.OK)
	opens(t, f, "/a/x", Reads|Creates, 0)

	_, f = some(t)
	grows(t, f, "/d/", "/a", "/b", "/c")
	fills(t, f, "/a", 0)
	before = seen(t, f)
	for _, p := range []string{"/d/x", "/x"} { // the root's page is full, too
		refuses(t, f, p, Reads|Creates, api.ErrSpace)
		is(t, "Mkdir", f.Mkdir(p), api.ErrSpace)
	}
	if got := seen(t, f); got != before {
		t.Errorf("what was refused changed:\n%s\nto:\n%s", before, got)
	}
	is(t, "Unlink", f.Unlink("/c"), api.OK)
	opens(t, f, "/x", Reads|Creates, 0)
	is(t, "Mkdir", f.Mkdir("/d/x"), api.OK)
}

// fills lets a file grow until just so many pages are free.
func fills(t *testing.T, f *FS, p string, free int) {
	t.Helper()
	h, e := f.Open(p, Writes|Appends)
	is(t, "Open of "+p, e, api.OK)
	page := make([]byte, f.t.Pool().Size())
	for {
		s, e := f.StatFS()
		is(t, "StatFS", e, api.OK)
		if s.Pages-s.UsedPages == free {
			break
		}
		if _, e = f.Write(h, page); e != api.OK {
			t.Fatal("Write to fill:", e, s)
		}
	}
	is(t, "Close", f.Close(h), api.OK)
}

func TestClose(t *testing.T) { // P15.2
	_, f := some(t)
	noHandles := []int{-1, 16, 17, math.MaxInt, math.MinInt, 1 << 32, -16}
	for _, h := range append(upTo(16), noHandles...) {
		is(t, "Close of one that is not open", f.Close(h), api.ErrHandle)
	}
	grows(t, f, "/a")
	for h := range 16 {
		opens(t, f, "/a", Reads, h)
	}
	before := seen(t, f)
	for _, h := range noHandles {
		is(t, "Close of none", f.Close(h), api.ErrHandle)
	}
	if got := seen(t, f); got != before {
		t.Error("what was refused changed:", got)
	}
	for _, h := range []int{7, 0, 15, 3} {
		is(t, "Close", f.Close(h), api.OK)
		is(t, "Close again", f.Close(h), api.ErrHandle)
		if _, e := f.Read(h, 1); e != api.ErrHandle {
			t.Error("Read behind Close:", e)
		}
	}
	for _, h := range []int{0, 3, 7, 15} {
		opens(t, f, "/a", Reads, h)
	}
	holds(t, f, "/a", api.Stat{Inode: 2, Kind: api.IFile, Links: 1, Size: 2, Pages: 1})
}

func TestRead(t *testing.T) { // P15.3
	_, f := some(t)
	text := strings.Repeat("0123456789", 200)
	opens(t, f, "/a", Reads|Writes|Creates, 0)
	writes(t, f, 0, text[:1000])
	writes(t, f, 0, text[1000:])
	opens(t, f, "/a", Reads, 1)
	at := 0
	for _, n := range []int{0, 1, 63, 64, 65, 0, 900, 3} {
		reads(t, f, 1, n, text[at:at+n])
		at += n
		seeks(t, f, 1, 0, 1, int64(at))
	}
	reads(t, f, 1, 1024, text[at:])
	reads(t, f, 1, 1024, "")
	seeks(t, f, 1, 0, 1, 2000)
	seeks(t, f, 1, 0, 0, 0)
	reads(t, f, 1, 1024, text[:1024])
	// What is answered is the caller's.
	seeks(t, f, 1, 0, 0, 0)
	b, _ := f.Read(1, 9)
	clear(b)
	seeks(t, f, 1, 0, 0, 0)
	reads(t, f, 1, 9, text[:9])
	// Behind the end there is nothing, and the place stays.
	for _, at := range []int64{2001, 1 << 31, 1 << 40} {
		seeks(t, f, 1, at, 0, at)
		reads(t, f, 1, 9, "")
		seeks(t, f, 1, 0, 1, at)
	}
	opens(t, f, "/a", Writes, 2)
	seeks(t, f, 1, 5, 0, 5)
	before := seen(t, f)
	for _, c := range []struct {
		h, n int
		want api.Errno
	}{
		{-1, 1, api.ErrHandle}, {3, 1, api.ErrHandle}, {16, 1, api.ErrHandle}, {math.MaxInt, -1, api.ErrHandle}, {math.MinInt, 1025, api.ErrHandle},
		{2, 1, api.ErrAccess}, {2, -1, api.ErrAccess}, {2, 1025, api.ErrAccess},
		{1, -1, api.ErrArg}, {1, 1025, api.ErrArg}, {1, math.MaxInt, api.ErrArg}, {0, math.MinInt, api.ErrArg},
	} {
		if b, e := f.Read(c.h, c.n); len(b) != 0 || e != c.want {
			t.Errorf("Read of %d at %d: %q, %d, not %d", c.n, c.h, b, e, c.want)
		}
	}
	if got := seen(t, f); got != before {
		t.Error("what was refused changed:", got)
	}
}

func TestWrite(t *testing.T) { // P15.3
	for _, size := range sizes {
		c, f := fresh(t, 22, 8, size, 2)
		opens(t, f, "/a", Reads|Writes|Creates, 0)
		b := []byte("some text")
		if n, e := f.Write(0, b); n != 9 || e != api.OK || string(b) != "some text" {
			t.Error("Write:", n, e, b)
		}
		clear(b) // what is handed in is not kept
		seeks(t, f, 0, 0, 1, 9)
		writes(t, f, 0, "")
		seeks(t, f, 0, 5, 0, 5)
		writes(t, f, 0, "TEXT and more")
		seeks(t, f, 0, 0, 1, 18)
		seeks(t, f, 0, 0, 0, 0)
		reads(t, f, 0, 99, "some TEXT and more")
		// What was not written is 0, and takes nothing.
		far := int64(size * (6 + size/2 + 3))
		seeks(t, f, 0, far, 0, far)
		writes(t, f, 0, "x")
		holds(t, f, "/a", api.Stat{Inode: 2, Kind: api.IFile, Links: 1, Size: far + 1, Pages: 4})
		seeks(t, f, 0, -5, 1, far-4)
		reads(t, f, 0, 9, "\x00\x00\x00\x00x")
		// A handle that may only write does.
		opens(t, f, "/a", Writes, 1)
		writes(t, f, 1, strings.Repeat("y", 1024))
		seeks(t, f, 0, 1022, 0, 1022)
		reads(t, f, 0, 4, "yy\x00\x00")
		is(t, "Sync", f.Sync(), api.OK)
		was := tells(t, f)
		if got := tells(t, losing(t, c)); got != was {
			t.Errorf("mounted:\n%s\nnot:\n%s", got, was)
		}
	}
}

func TestWriteToTheEnd(t *testing.T) { // P15.3
	_, f := some(t)
	opens(t, f, "/a", Reads|Writes|Creates|Appends, 0)
	opens(t, f, "/a", Reads|Writes, 1)
	writes(t, f, 0, "123")
	writes(t, f, 1, "ab")
	seeks(t, f, 0, 0, 0, 0)
	reads(t, f, 0, 2, "ab")
	writes(t, f, 0, "45")
	seeks(t, f, 0, 0, 1, 5)
	seeks(t, f, 1, 9, 0, 9)
	writes(t, f, 1, "z")
	seeks(t, f, 0, 1<<40, 0, 1<<40)
	writes(t, f, 0, "!")
	seeks(t, f, 0, 0, 1, 11)
	// Of no bytes, too, its place is the size first.
	seeks(t, f, 0, 2, 0, 2)
	writes(t, f, 0, "")
	seeks(t, f, 0, 0, 1, 11)
	seeks(t, f, 0, 0, 0, 0)
	reads(t, f, 0, 99, "ab345\x00\x00\x00\x00z!")
	// Where it is refused, its place stays.
	is(t, "Truncate", f.Truncate("/a", inode.Most(64)), api.OK)
	seeks(t, f, 0, 3, 0, 3)
	before := seen(t, f)
	if n, e := f.Write(0, []byte("x")); n != 0 || e != api.ErrBig {
		t.Error("Write behind the greatest size:", n, e)
	}
	if n, e := f.Write(0, make([]byte, 1025)); n != 0 || e != api.ErrArg {
		t.Error("Write of too many bytes:", n, e)
	}
	if got := seen(t, f); got != before {
		t.Errorf("what was refused changed:\n%s\nto:\n%s", before, got)
	}
	writes(t, f, 0, "")
	seeks(t, f, 0, 0, 1, inode.Most(64))
}

func TestWriteOfWhatMayNotBe(t *testing.T) { // P15.3, P15.10, P15.12
	_, f := some(t)
	opens(t, f, "/a", Reads|Writes|Creates, 0)
	writes(t, f, 0, "abc")
	opens(t, f, "/a", Reads, 1)
	opens(t, f, "/b", Reads|Writes|Creates, 2)
	fills(t, f, "/b", 1)
	greatest := inode.Most(64)
	big := make([]byte, 1025)
	for _, c := range []struct {
		what string
		h    int
		at   int64
		n    int
		want api.Errno
	}{
		{"no handle", -1, 0, 1025, api.ErrHandle},
		{"no handle", 3, 0, 0, api.ErrHandle},
		{"no handle", 16, 0, 1, api.ErrHandle},
		{"no handle", math.MaxInt, 0, 1, api.ErrHandle},
		{"no handle", math.MinInt, 0, 1, api.ErrHandle},
		{"one that may not write", 1, 0, 1, api.ErrAccess},
		{"one that may not write, and too many", 1, 0, 1025, api.ErrAccess},
		{"too many", 0, 0, 1025, api.ErrArg},
		{"too many, and too far", 0, 1 << 40, 1025, api.ErrArg},
		{"too far", 0, greatest, 1, api.ErrBig},
		{"too far", 0, greatest - 1023, 1024, api.ErrBig},
		{"too far of nothing", 0, greatest + 1, 0, api.ErrBig},
		{"much too far", 0, 1 << 40, 1, api.ErrBig},
		{"one page too many", 0, 64, 65, api.ErrSpace},
		{"one page of pointers too many", 0, 6 * 64, 1, api.ErrSpace},
		{"pages of pointers too many", 0, greatest - 1, 1, api.ErrSpace},
		{"much too much", 0, 0, 1024, api.ErrSpace},
	} {
		if c.want != api.ErrHandle {
			seeks(t, f, c.h, c.at, 0, c.at)
		}
		before := seen(t, f)
		for range 2 {
			if n, e := f.Write(c.h, big[:c.n]); n != 0 || e != c.want {
				t.Errorf("Write of %s: %d, %d, not %d", c.what, n, e, c.want)
			}
		}
		if got := seen(t, f); got != before {
			t.Errorf("Write of %s changed:\n%s\nto:\n%s", c.what, before, got)
		}
	}
	// What there is room for is written: what is there already, and just one page more.
	seeks(t, f, 0, 0, 0, 0)
	writes(t, f, 0, strings.Repeat("z", 128))
	seeks(t, f, 0, 0, 0, 0)
	reads(t, f, 0, 999, strings.Repeat("z", 128))
	if s, e := f.StatFS(); s.UsedPages != s.Pages || e != api.OK {
		t.Error("StatFS:", s, e)
	}
	seeks(t, f, 0, greatest, 0, greatest)
	writes(t, f, 0, "")
}

func TestSeek(t *testing.T) { // P15.3
	_, f := some(t)
	opens(t, f, "/a", Reads|Writes|Creates, 0)
	writes(t, f, 0, strings.Repeat("x", 100))
	const far = 1 << 40
	for _, c := range []struct {
		at, off int64
		from    int
		want    int64 // -1: ErrArg
	}{
		{7, 0, 0, 0}, {7, 1, 0, 1}, {7, far, 0, far}, {7, far + 1, 0, -1}, {7, -1, 0, -1}, {7, math.MaxInt64, 0, -1}, {7, math.MinInt64, 0, -1},
		{7, 0, 1, 7}, {7, 3, 1, 10}, {7, -7, 1, 0}, {7, -8, 1, -1}, {7, far - 7, 1, far}, {7, far - 6, 1, -1}, {7, math.MaxInt64, 1, -1}, {7, math.MinInt64, 1, -1},
		{far, 0, 1, far}, {far, 1, 1, -1}, {far, -far, 1, 0}, {far, -far - 1, 1, -1}, {far, math.MaxInt64, 1, -1}, {far, math.MinInt64, 1, -1},
		{7, 0, 2, 100}, {7, 3, 2, 103}, {7, -100, 2, 0}, {7, -101, 2, -1}, {7, far - 100, 2, far}, {7, far - 99, 2, -1}, {7, math.MaxInt64, 2, -1}, {7, math.MinInt64, 2, -1},
		{7, 0, 3, -1}, {7, 0, -1, -1}, {7, 0, math.MaxInt, -1}, {7, 0, math.MinInt, -1},
	} {
		seeks(t, f, 0, c.at, 0, c.at)
		at, e := f.Seek(0, c.off, c.from)
		if c.want >= 0 && (at != c.want || e != api.OK) || c.want < 0 && (at != 0 || e != api.ErrArg) {
			t.Errorf("Seek at %d of %d from %d: %d, %d, not %d", c.at, c.off, c.from, at, e, c.want)
		}
		if c.want < 0 {
			c.want = c.at
		}
		seeks(t, f, 0, 0, 1, c.want)
	}
	for _, h := range []int{-1, 1, 15, 16, math.MaxInt, math.MinInt} {
		for _, from := range []int{0, 1, 2, 3} {
			if at, e := f.Seek(h, -1, from); at != 0 || e != api.ErrHandle {
				t.Errorf("Seek of %d: %d, %d", h, at, e)
			}
		}
	}
	// The place plays no part in the file, and one that may only write has one, too.
	holds(t, f, "/a", api.Stat{Inode: 2, Kind: api.IFile, Links: 1, Size: 100, Pages: 2})
	opens(t, f, "/a", Writes, 1)
	seeks(t, f, 1, 0, 2, 100)
}

func TestWhatNothingNames(t *testing.T) { // P15.2, P15.4
	unlinks := func(f *FS) api.Errno { return f.Unlink("/a") }
	renames := func(f *FS) api.Errno { return f.Rename("/b", "/a") }
	for what, gone := range map[string]func(f *FS) api.Errno{"Unlink": unlinks, "Rename": renames} {
		c, f := some(t)
		grows(t, f, "/b")
		for h := range 3 {
			opens(t, f, "/a", Reads|Writes|Creates|Appends, h)
		}
		writes(t, f, 0, strings.Repeat("x", 200))
		is(t, "Link", f.Link("/a", "/c"), api.OK)
		is(t, "Unlink", f.Unlink("/c"), api.OK)
		used, e := f.StatFS()
		is(t, "StatFS", e, api.OK)
		is(t, what, gone(f), api.OK)
		// It stays: it is read, written and cut on.
		if s, e := f.StatFS(); s.UsedInodes != used.UsedInodes || e != api.OK {
			t.Error("StatFS behind", what, s, e)
		}
		is(t, "Close", f.Close(1), api.OK)
		writes(t, f, 2, "more")
		seeks(t, f, 0, -6, 2, 198)
		reads(t, f, 0, 99, "xxmore")
		is(t, "Fsync", f.Fsync(0), api.OK)
		is(t, "Close", f.Close(0), api.OK)
		seeks(t, f, 2, 200, 0, 200)
		reads(t, f, 2, 99, "more")
		// Another one of that name is another one.
		opens(t, f, "/a", Reads|Creates, 0)
		if s, e := f.Stat("/a"); s.Inode == 3 || e != api.OK {
			t.Error("Stat of another one:", s, e)
		}
		// A mount does not find it.
		lost := losing(t, c.Copy())
		if s, e := lost.StatFS(); s.UsedInodes != 2 || e != api.OK {
			t.Error("StatFS behind a mount:", s, e)
		}
		// With its last handle it goes.
		before, e := f.StatFS()
		is(t, "StatFS", e, api.OK)
		is(t, "Close", f.Close(2), api.OK)
		if s, e := f.StatFS(); s.UsedInodes != before.UsedInodes-1 || s.UsedPages != before.UsedPages-4 || e != api.OK {
			t.Error("StatFS behind Close:", s, before, e)
		}
	}
	// One that no handle is open on goes at once; one that is named stays when it is closed.
	_, f := some(t)
	grows(t, f, "/a", "/b")
	is(t, "Unlink", f.Unlink("/a"), api.OK)
	opens(t, f, "/b", Reads, 0)
	is(t, "Close", f.Close(0), api.OK)
	if s, e := f.StatFS(); s.UsedInodes != 2 || s.UsedPages != 2 || e != api.OK {
		t.Error("StatFS behind Unlink:", s, e)
	}
}

func TestSixteenThatNothingNames(t *testing.T) { // P15.4, P15.9
	c, f := fresh(t, 16, 8, 512, 2)
	for h := range 16 {
		p := "/" + string(rune('a'+h))
		opens(t, f, p, Writes|Creates, h)
		writes(t, f, h, p)
		is(t, "Unlink", f.Unlink(p), api.OK)
	}
	is(t, "Sync", f.Sync(), api.OK)
	f = losing(t, c)
	if s, e := f.StatFS(); s.UsedInodes != 1 || s.UsedPages != 0 || e != api.OK {
		t.Error("StatFS:", s, e)
	}
}
