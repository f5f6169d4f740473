package fs

import (
	"math"
	"strings"
	"testing"

	"cuneiform/api"
	"cuneiform/nand"
)

func TestExample(t *testing.T) { // the chapter's
	_, f := fresh(t, 32, 8, 64, 2)
	opens(t, f, "/a", 7, 0)
	writes(t, f, 0, "xyz")
	holds(t, f, "/a", api.Stat{Inode: 2, Kind: api.IFile, Links: 1, Size: 3, Pages: 1})
	is(t, "Mkdir", f.Mkdir("/a"), api.ErrExist)
	is(t, "Unlink", f.Unlink("/a"), api.OK)
	reads(t, f, 0, 9, "")
	seeks(t, f, 0, 0, 0, 0)
	reads(t, f, 0, 9, "xyz")
}

func TestExampleOfTheWhole(t *testing.T) { // the document's, as far as they are this layer's
	c := newChip(t, 16, 8, 64)
	if f, e := Mount(c); f != nil || e != api.ErrCorrupt {
		t.Error("Mount:", f, e)
	}
	is(t, "Format", Format(c, 2), api.OK)
	f := mounts(t, c)
	takes := func(pages, inodes int) {
		t.Helper()
		if s, e := f.StatFS(); s != (api.StatFS{Pages: 36, UsedPages: pages, Inodes: 4, UsedInodes: inodes}) || e != api.OK {
			t.Error("StatFS:", s, e)
		}
	}
	takes(0, 1)
	lists(t, f, "/")
	opens(t, f, "/a", 7, 0)
	writes(t, f, 0, strings.Repeat("\x07", 100))
	holds(t, f, "/a", api.Stat{Inode: 2, Kind: api.IFile, Links: 1, Size: 100, Pages: 2})
	seeks(t, f, 0, 98, 0, 98)
	reads(t, f, 0, 9, "\x07\x07")
	is(t, "Mkdir", f.Mkdir("/d"), api.OK)
	is(t, "Link", f.Link("/a", "/d/b"), api.OK)
	is(t, "Rename", f.Rename("/a", "/c"), api.OK)
	walks(t, f, "/", "/d", "/d/b", "/c")
	is(t, "Rmdir", f.Rmdir("/d"), api.ErrNotEmpty)
	is(t, "Unlink", f.Unlink("/d"), api.ErrIsDir)
	is(t, "Rename", f.Rename("/d", "/d/e"), api.ErrInside)
	is(t, "Sync", f.Sync(), api.OK)
	is(t, "Unlink", f.Unlink("/c"), api.OK)
	c.Lose()
	if l, e := f.List("/"); len(l) != 0 || e != api.ErrDown {
		t.Error("List of a chip that is down:", l, e)
	}
	c.Start()
	f = mounts(t, c)
	lists(t, f, "/", api.Entry{Inode: 3, Name: "d"}, api.Entry{Inode: 2, Name: "c"})
	if b, e := f.Read(0, 9); len(b) != 0 || e != api.ErrHandle {
		t.Error("Read behind a mount:", b, e)
	}
	is(t, "Truncate", f.Truncate("/c", 0), api.OK)
	takes(2, 3)
	refuses(t, f, "/d", Reads, api.ErrIsDir)
}

func TestFormat(t *testing.T) { // P15.1
	down := newChip(t, 16, 8, 64)
	down.Lose()
	for _, c := range []struct {
		what    string
		chip    *nand.Chip
		reserve int
		want    api.Errno
	}{
		{"no chip", nil, 2, api.ErrNil},
		{"a chip that is none", &nand.Chip{}, 2, api.ErrDown},
		{"a chip that is down", down, 0, api.ErrDown},
		{"no reserve", newChip(t, 16, 8, 64), 0, api.ErrArg},
		{"less", newChip(t, 16, 8, 64), math.MinInt, api.ErrArg},
		{"too great a reserve", newChip(t, 16, 8, 64), 1<<15 + 1, api.ErrArg},
		{"a reserve that leaves one data block", newChip(t, 16, 8, 64), 14, api.ErrFull},
		{"a reserve that leaves no plan", newChip(t, 16, 8, 64), 5, api.ErrFull},
		{"a chip without a plan", newChip(t, 8, 4, 64), 1, api.ErrFull},
	} {
		is(t, "Format of "+c.what, Format(c.chip, c.reserve), c.want)
	}
	failing := newChip(t, 16, 8, 64)
	is(t, "Script", failing.Script([]api.Fault{{At: 16, Kind: api.Failed}, {At: 17, Kind: api.Failed}, {At: 18, Kind: api.Failed}}), api.OK)
	is(t, "Format where more fails than the reserve has", Format(failing, 2), api.ErrReserve)
	failing = newChip(t, 16, 8, 64)
	is(t, "Script", failing.Script([]api.Fault{{At: 9, Kind: api.Within}}), api.OK)
	is(t, "Format where the power goes", Format(failing, 2), api.ErrDown)
	// Whatever was there is gone.
	c, f := some(t)
	grows(t, f, "/d/", "/d/a")
	is(t, "Sync", f.Sync(), api.OK)
	is(t, "Format", Format(c, 3), api.OK)
	f = mounts(t, c)
	lists(t, f, "/")
	holds(t, f, "/", api.Stat{Inode: 1, Kind: api.IDir, Links: 1})
}

func TestMount(t *testing.T) { // P15.1
	down := newChip(t, 16, 8, 64)
	is(t, "Format", Format(down, 2), api.OK)
	down.Lose()
	broken, f := some(t)
	grows(t, f, "/a")
	is(t, "Sync", f.Sync(), api.OK)
	for k := range 22 {
		is(t, "Erase", broken.Erase(k), api.OK)
	}
	for _, c := range []struct {
		what string
		chip *nand.Chip
		want api.Errno
	}{
		{"no chip", nil, api.ErrNil},
		{"a chip that is none", &nand.Chip{}, api.ErrDown},
		{"a chip that is down", down, api.ErrDown},
		{"a new chip", newChip(t, 16, 8, 64), api.ErrCorrupt},
		{"a chip that was erased", broken, api.ErrCorrupt},
	} {
		if f, e := Mount(c.chip); f != nil || e != c.want {
			t.Errorf("Mount of %s: %v, %d, not %d", c.what, f, e, c.want)
		}
	}
	// No handle is open, and of another one on the same chip it knows what was committed.
	for _, size := range sizes {
		c, f := fresh(t, 16, 8, size, 2)
		opens(t, f, "/a", Reads|Writes|Creates, 0)
		writes(t, f, 0, "some text")
		is(t, "Sync", f.Sync(), api.OK)
		was := tells(t, f)
		is(t, "Mkdir", f.Mkdir("/d"), api.OK)
		strokes := c.Strokes()
		for range 2 {
			g := mounts(t, c)
			if got := tells(t, g); got != was {
				t.Errorf("mounted:\n%s\nnot:\n%s", got, was)
			}
			if g.handles != (&FS{}).handles {
				t.Error("the handles behind a mount:", g.handles)
			}
		}
		if c.Strokes() != strokes {
			t.Error("Mount made strokes")
		}
	}
}

func TestWhereThereIsNone(t *testing.T) { // P15.2 to P15.7
	_, gone := some(t)
	is(t, "Unmount", gone.Unmount(), api.OK)
	for what, f := range map[string]*FS{"nil": nil, "the zero value": {}, "one that is unmounted": gone} {
		for range 2 {
			for _, c := range append(calls(), wrongCalls()...) {
				is(t, c.name+" of "+what, c.do(f), api.ErrNil)
			}
			for p := range f.Walk("/") {
				t.Error("Walk of", what, p)
			}
		}
	}
}

// ready is a file system for which calls are made, and its chip.
func ready(t *testing.T) (*nand.Chip, *FS) {
	t.Helper()
	c, f := some(t)
	opens(t, f, "/a", Reads|Writes|Creates, 0)
	writes(t, f, 0, "12345")
	is(t, "Mkdir", f.Mkdir("/d"), api.OK)
	is(t, "Sync", f.Sync(), api.OK)
	return c, f
}

func TestAllCalls(t *testing.T) { // that none of them is refused for another reason than it is tried for elsewhere
	for _, k := range calls() {
		_, f := ready(t)
		is(t, k.name, k.do(f), api.OK)
	}
}

func TestWhereTheChipIsDown(t *testing.T) { // P15.2 to P15.7
	for _, k := range append(calls(), wrongCalls()...) {
		c, f := ready(t)
		before := seen(t, f)
		c.Lose()
		is(t, k.name+" of a chip that is down", k.do(f), api.ErrDown)
		for p := range f.Walk("/") {
			t.Error("Walk of a chip that is down:", p)
		}
		if k.name == "Unmount" {
			is(t, "Close behind Unmount", f.Close(0), api.ErrNil)
			continue
		}
		is(t, "Close of a chip that is down", f.Close(0), api.ErrDown)
		c.Start()
		// The chip did nothing meanwhile, and nothing was refused in part.
		if got := seen(t, f); got != before {
			t.Errorf("%s of a chip that was down changed it:\n%s\nto:\n%s", k.name, before, got)
		}
	}
}

// readOnly is a file system for which calls are made, and of whose chip more failed than the reserve has.
func readOnly(t *testing.T) (*nand.Chip, *FS) {
	t.Helper()
	c, f := ready(t)
	is(t, "Mkdir", f.Mkdir("/late"), api.OK)
	is(t, "Script", c.Script([]api.Fault{{At: 0, Kind: api.Failed}, {At: 1, Kind: api.Failed}, {At: 2, Kind: api.Failed}}), api.OK)
	is(t, "Sync where too much fails", f.Sync(), api.ErrReadOnly)
	return c, f
}

func TestReadOnly(t *testing.T) { // P15.11
	for _, k := range append(calls(), wrongCalls()...) {
		c, f := readOnly(t)
		before, strokes := seen(t, f), c.Strokes()
		_, other := ready(t)
		want := k.do(other)
		if k.changes {
			want = api.ErrReadOnly
		}
		is(t, k.name+" of what is read-only", k.do(f), want)
		if c.Strokes() != strokes {
			t.Error(k.name, "made strokes")
		}
		if k.name == "Unmount" {
			is(t, "Close behind Unmount", f.Close(0), api.ErrNil)
			continue
		}
		if got := seen(t, f); k.changes && got != before {
			t.Errorf("%s of what is read-only changed it:\n%s\nto:\n%s", k.name, before, got)
		}
	}
	// What was not committed is there, too, as long as it is mounted; then what was committed last.
	c, f := readOnly(t)
	if s, e := f.StatFS(); s != (api.StatFS{Pages: 81, UsedPages: 2, Inodes: 10, UsedInodes: 4, ReadOnly: true}) || e != api.OK {
		t.Error("StatFS of what is read-only:", s, e)
	}
	lists(t, f, "/", api.Entry{Inode: 2, Name: "a"}, api.Entry{Inode: 3, Name: "d"}, api.Entry{Inode: 4, Name: "late"})
	opens(t, f, "/a", Reads|Writes, 1)
	reads(t, f, 1, 9, "12345")
	lists(t, losing(t, c), "/", api.Entry{Inode: 2, Name: "a"}, api.Entry{Inode: 3, Name: "d"})
	// A file that nothing names goes with its handle.
	c, f = ready(t)
	is(t, "Unlink", f.Unlink("/a"), api.OK)
	is(t, "Script", c.Script([]api.Fault{{At: 0, Kind: api.Failed}, {At: 1, Kind: api.Failed}, {At: 2, Kind: api.Failed}}), api.OK)
	is(t, "Sync where too much fails", f.Sync(), api.ErrReadOnly)
	reads(t, f, 0, 9, "")
	is(t, "Close", f.Close(0), api.OK)
	if s, e := f.StatFS(); s != (api.StatFS{Pages: 81, UsedPages: 1, Inodes: 10, UsedInodes: 2, ReadOnly: true}) || e != api.OK {
		t.Error("StatFS behind Close:", s, e)
	}
}

func TestWithinTheReserveNothingIsSeen(t *testing.T) { // P15.8
	for at := range 40 {
		c, f := some(t)
		is(t, "Script", c.Script([]api.Fault{{At: at, Kind: api.Failed}, {At: at + 3, Kind: api.Failed, Data: []byte{1, 2, 3}}}), api.OK)
		for k := range 8 {
			p := "/" + string(rune('a'+k))
			opens(t, f, p, Reads|Writes|Creates, 0)
			for range 8 {
				writes(t, f, 0, strings.Repeat(p, 30))
			}
			is(t, "Close", f.Close(0), api.OK)
			is(t, "Sync", f.Sync(), api.OK)
		}
		if s, e := f.StatFS(); s != (api.StatFS{Pages: 81, UsedPages: 8*9 + 2, Inodes: 10, UsedInodes: 9}) || e != api.OK {
			t.Error("StatFS:", s, e)
		}
		f = losing(t, c)
		for k := range 8 {
			p := "/" + string(rune('a'+k))
			opens(t, f, p, Reads, 0)
			reads(t, f, 0, 1024, strings.Repeat(p, 240))
			is(t, "Close", f.Close(0), api.OK)
		}
	}
}

// dirtied is a file system for which calls are made, with so many dirty pages.
func dirtied(t *testing.T, pages int) (*nand.Chip, *FS) {
	t.Helper()
	c, f := ready(t)
	seeks(t, f, 0, 0, 0, 0)
	// Of the pages of the bytes there is one for each, from the 7th on one of pointers with them, and that of the inode.
	bytes := pages - 1
	if bytes > 6 {
		bytes--
	}
	writes(t, f, 0, strings.Repeat("x", 64*bytes))
	if n := f.t.Pool().Dirty(); n != pages {
		t.Fatal("dirty:", n)
	}
	return c, f
}

func TestWhatChangesCommitsFirst(t *testing.T) { // P15.9
	for _, k := range append(calls(), wrongCalls()...) {
		for _, pages := range []int{15, 16, 17} {
			c, f := dirtied(t, pages)
			was, strokes := tells(t, f), c.Strokes()
			e := k.do(f)
			ends := e == api.OK && (k.name == "Fsync" || k.name == "Sync" || k.name == "Unmount")
			commits := k.changes && pages >= 16
			if made := c.Strokes() > strokes; made != (commits || ends) {
				t.Errorf("%s with %d dirty: %d, strokes: %v", k.name, pages, e, made)
			}
			if ends {
				continue
			}
			// What is committed is what was there ahead of the call.
			if got := tells(t, losing(t, c)); (got == was) != commits {
				t.Errorf("%s with %d dirty, and then:\n%s\nahead of it:\n%s", k.name, pages, got, was)
			}
			// Where the power goes, or the reserve does not last, this is named ahead of all else.
			for kind, want := range map[int]api.Errno{api.Ahead: api.ErrDown, api.Within: api.ErrDown, api.Failed: api.ErrReadOnly} {
				c, f = dirtied(t, pages)
				is(t, "Script", c.Script([]api.Fault{{At: 0, Kind: kind}, {At: 1, Kind: kind}, {At: 2, Kind: kind}}), api.OK)
				if got := k.do(f); commits && got != want || !commits && got != e {
					t.Errorf("%s with %d dirty, and a fault %d: %d", k.name, pages, kind, got)
				}
				if commits && kind == api.Failed && k.name != "Unmount" && tells(t, f) != was {
					t.Errorf("%s with %d dirty changed what is read-only", k.name, pages)
				}
			}
		}
	}
	// Flags that are wrong are named ahead of it.
	c, f := dirtied(t, 16)
	strokes := c.Strokes()
	refuses(t, f, "/b", Creates|Cuts, api.ErrArg)
	if c.Strokes() != strokes {
		t.Error("Open with wrong flags made strokes")
	}
}

func TestSyncAndFsync(t *testing.T) { // P15.7
	for what, sync := range map[string]func(f *FS) api.Errno{
		"Sync":          func(f *FS) api.Errno { return f.Sync() },
		"Fsync":         func(f *FS) api.Errno { return f.Fsync(1) },
		"Fsync to read": func(f *FS) api.Errno { return f.Fsync(2) },
		"Unmount":       func(f *FS) api.Errno { return f.Unmount() },
	} {
		c, f := some(t)
		grows(t, f, "/d/", "/d/a", "/b")
		opens(t, f, "/d/a", Reads|Writes, 0)
		opens(t, f, "/b", Writes|Appends, 1)
		opens(t, f, "/b", Reads, 2)
		writes(t, f, 1, "more")
		was := tells(t, f)
		is(t, what, sync(f), api.OK)
		if what != "Unmount" {
			for _, h := range []int{-1, 3, 15, 16, math.MaxInt, math.MinInt} {
				is(t, "Fsync of what is no handle", f.Fsync(h), api.ErrHandle)
			}
			writes(t, f, 0, "lost")
			is(t, "Mkdir", f.Mkdir("/lost"), api.OK)
			is(t, "Fsync of what is no handle", f.Fsync(3), api.ErrHandle)
		}
		if got := tells(t, losing(t, c)); got != was {
			t.Errorf("behind %s:\n%s\nnot:\n%s", what, got, was)
		}
	}
	// Each is sealed, also where nothing changed.
	c, f := some(t)
	opens(t, f, "/a", Reads|Creates, 0)
	is(t, "Sync", f.Sync(), api.OK)
	for range 3 {
		strokes := c.Strokes()
		is(t, "Sync", f.Sync(), api.OK)
		is(t, "Fsync", f.Fsync(0), api.OK)
		if c.Strokes() < strokes+2 {
			t.Error("two commits made so many strokes:", c.Strokes()-strokes)
		}
	}
}

func TestUnmount(t *testing.T) { // P15.7
	// All handles are closed, and what nothing names goes with them.
	c, f := ready(t)
	for h := 1; h < 16; h++ {
		opens(t, f, "/a", Reads, h)
	}
	is(t, "Unlink", f.Unlink("/a"), api.OK)
	is(t, "Unmount", f.Unmount(), api.OK)
	is(t, "Unmount", f.Unmount(), api.ErrNil)
	f = mounts(t, c)
	if s, e := f.StatFS(); s != (api.StatFS{Pages: 81, UsedPages: 1, Inodes: 10, UsedInodes: 2}) || e != api.OK {
		t.Error("StatFS:", s, e)
	}
	lists(t, f, "/", api.Entry{Inode: 3, Name: "d"})
	// Nothing is left to be freed: what was mounted has nothing dirty.
	if n := f.t.Pool().Dirty(); n != 0 {
		t.Error("dirty:", n)
	}
	// Whatever it answers, it is nil from then on; the chip is mounted again.
	for kind, want := range map[int]api.Errno{api.Ahead: api.ErrDown, api.Within: api.ErrDown, api.Failed: api.ErrReadOnly} {
		for _, pages := range []int{2, 16} {
			c, f := dirtied(t, pages)
			is(t, "Script", c.Script([]api.Fault{{At: 0, Kind: kind}, {At: 1, Kind: kind}, {At: 2, Kind: kind}}), api.OK)
			is(t, "Unmount", f.Unmount(), want)
			is(t, "Unmount", f.Unmount(), api.ErrNil)
			is(t, "Sync", f.Sync(), api.ErrNil)
			c.Start()
			lists(t, mounts(t, c), "/", api.Entry{Inode: 2, Name: "a"}, api.Entry{Inode: 3, Name: "d"})
		}
	}
}

func TestStatFS(t *testing.T) { // P15.6
	for _, g := range []struct {
		blocks, pages, size, reserve int
		want                         api.StatFS
	}{
		{16, 8, 64, 2, api.StatFS{Pages: 36, Inodes: 4, UsedInodes: 1}},
		{16, 8, 128, 2, api.StatFS{Pages: 36, Inodes: 10, UsedInodes: 1}},
		{22, 8, 64, 2, api.StatFS{Pages: 81, Inodes: 10, UsedInodes: 1}},
		{128, 32, 64, 1, api.StatFS{Pages: 3719, Inodes: 494, UsedInodes: 1}},
		{128, 32, 512, 1, api.StatFS{Pages: 3719, Inodes: 5187, UsedInodes: 1}},
	} {
		_, f := fresh(t, g.blocks, g.pages, g.size, g.reserve)
		for n, used := range []int{0, 2, 2, 4} {
			want := g.want
			want.UsedPages, want.UsedInodes = used, 1+n
			if s, e := f.StatFS(); s != want || e != api.OK {
				t.Errorf("%v: StatFS with %d: %v, %d, not %v", g, n, s, e, want)
			}
			if n < 3 {
				grows(t, f, []string{"/a", "/d/", "/d/a"}[n])
			}
		}
	}
}
