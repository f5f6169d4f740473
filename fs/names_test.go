package fs

import (
	"fmt"
	"math"
	"strings"
	"testing"

	"cuneiform/api"
	"cuneiform/inode"
)

// stays fails the test, if calls that are refused answer another error, or change something.
func stays(t *testing.T, f *FS, what string, want api.Errno, do ...func() api.Errno) {
	t.Helper()
	before := seen(t, f)
	for k, call := range do {
		if e := call(); e != want {
			t.Errorf("%s (%d): %d, not %d", what, k, e, want)
		}
	}
	if got := seen(t, f); got != before {
		t.Errorf("%s changed:\n%s\nto:\n%s", what, before, got)
	}
}

// planted is a file system with files /a and /d/a, and directories /d, /d/e and /f.
func planted(t *testing.T) *FS {
	t.Helper()
	_, f := some(t)
	grows(t, f, "/d/", "/a", "/d/e/", "/d/a", "/f/")
	return f
}

func TestTruncate(t *testing.T) { // P15.4
	f := planted(t)
	opens(t, f, "/a", Reads|Writes, 0)
	writes(t, f, 0, strings.Repeat("0123456789", 20))
	seeks(t, f, 0, 150, 0, 150)
	for _, c := range []struct {
		size  int64
		pages int
	}{{200, 4}, {130, 3}, {129, 3}, {128, 2}, {1000, 2}, {70, 2}, {90, 2}, {inode.Most(64), 2}, {1, 1}, {0, 0}, {3, 0}} {
		is(t, "Truncate", f.Truncate("//a/", c.size), api.OK)
		holds(t, f, "/a", api.Stat{Inode: 3, Kind: api.IFile, Links: 1, Size: c.size, Pages: c.pages})
		if c.size == 90 {
			seeks(t, f, 0, 60, 0, 60)
			reads(t, f, 0, 99, "0123456789"+strings.Repeat("\x00", 20))
			seeks(t, f, 0, 150, 0, 150)
		}
	}
	seeks(t, f, 0, 0, 1, 150)
	for _, p := range noPaths {
		stays(t, f, "Truncate of "+p.text, p.want, func() api.Errno { return f.Truncate(p.text, 0) }, func() api.Errno { return f.Truncate(p.text, -1) })
	}
	for p, want := range map[string]api.Errno{
		"/": api.ErrIsDir, "//": api.ErrIsDir, "/d": api.ErrIsDir, "/d/e": api.ErrIsDir,
		"/x": api.ErrNoEntry, "/d/x": api.ErrNoEntry, "/x/a": api.ErrNoEntry, "/a/x": api.ErrNotDir, "/d/a/x": api.ErrNotDir,
	} {
		stays(t, f, "Truncate of "+p, want, func() api.Errno { return f.Truncate(p, 0) }, func() api.Errno { return f.Truncate(p, -1) })
	}
	stays(t, f, "Truncate to less than nothing", api.ErrArg, func() api.Errno { return f.Truncate("/a", -1) }, func() api.Errno { return f.Truncate("/d/a", math.MinInt64) })
	stays(t, f, "Truncate to too much", api.ErrBig, func() api.Errno { return f.Truncate("/a", inode.Most(64)+1) }, func() api.Errno { return f.Truncate("/d/a", math.MaxInt64) })
}

func TestMkdir(t *testing.T) { // P15.4
	_, f := some(t)
	is(t, "Mkdir", f.Mkdir("/d"), api.OK)
	holds(t, f, "/d", api.Stat{Inode: 2, Kind: api.IDir, Links: 1})
	holds(t, f, "/", api.Stat{Inode: 1, Kind: api.IDir, Links: 1, Size: 16, Pages: 1})
	lists(t, f, "/d")
	is(t, "Mkdir", f.Mkdir("//d//abcdefghijklm/"), api.OK)
	is(t, "Mkdir", f.Mkdir("/d/abcdefghijklm/d"), api.OK)
	lists(t, f, "/d", api.Entry{Inode: 3, Name: "abcdefghijklm"})
	grows(t, f, "/a")
	for _, p := range noPaths {
		stays(t, f, "Mkdir of "+p.text, p.want, func() api.Errno { return f.Mkdir(p.text) })
	}
	for p, want := range map[string]api.Errno{
		"/": api.ErrRoot, "///": api.ErrRoot,
		"/x/y": api.ErrNoEntry, "/d/x/y": api.ErrNoEntry, "/a/x": api.ErrNotDir, "/a/x/y": api.ErrNotDir,
		"/d": api.ErrExist, "/a": api.ErrExist, "/d/abcdefghijklm": api.ErrExist,
	} {
		stays(t, f, "Mkdir of "+p, want, func() api.Errno { return f.Mkdir(p) })
	}
}

func TestAsDeepAsMayBe(t *testing.T) { // P15.4
	_, f := fresh(t, 30, 8, 64, 2)
	p := ""
	for n := range 16 {
		p += "/abcdefghijkl" + string(rune('a'+n))
		if n < 15 {
			is(t, "Mkdir", f.Mkdir(p), api.OK)
		}
	}
	// It has 224 bytes; with as many as a path may have it is the same one.
	for _, at := range []string{p, p + strings.Repeat("/", 31)} {
		opens(t, f, at, Reads|Creates, 0)
		is(t, "Close", f.Close(0), api.OK)
	}
	stays(t, f, "a path of too many bytes", api.ErrPath, func() api.Errno { return f.Unlink(p + strings.Repeat("/", 32)) })
	stays(t, f, "a path of too many names", api.ErrPath, func() api.Errno { return f.Mkdir(p + "/x") })
	n := 0
	for at := range f.Walk("/") {
		if n++; n == 16 && at != p {
			t.Error("Walk:", at)
		}
	}
	if n != 16 {
		t.Error("so many are below /:", n)
	}
	is(t, "Unlink", f.Unlink(p), api.OK)
	is(t, "Mkdir", f.Mkdir(p), api.OK)
	holds(t, f, p, api.Stat{Inode: 17, Kind: api.IDir, Links: 1})
}

func TestRmdir(t *testing.T) { // P15.4
	f := planted(t)
	for _, p := range noPaths {
		stays(t, f, "Rmdir of "+p.text, p.want, func() api.Errno { return f.Rmdir(p.text) })
	}
	for p, want := range map[string]api.Errno{
		"/": api.ErrRoot, "//": api.ErrRoot,
		"/x": api.ErrNoEntry, "/x/y": api.ErrNoEntry, "/d/x": api.ErrNoEntry, "/a/x": api.ErrNotDir, "/d/a/x/y": api.ErrNotDir,
		"/a": api.ErrNotDir, "/d/a": api.ErrNotDir, "/d": api.ErrNotEmpty,
	} {
		stays(t, f, "Rmdir of "+p, want, func() api.Errno { return f.Rmdir(p) })
	}
	is(t, "Rmdir", f.Rmdir("/d/e/"), api.OK)
	lists(t, f, "/d", api.Entry{Inode: 5, Name: "a"})
	is(t, "Rmdir", f.Rmdir("/d/e"), api.ErrNoEntry)
	is(t, "Rmdir", f.Rmdir("/d"), api.ErrNotEmpty)
	is(t, "Unlink", f.Unlink("/d/a"), api.OK)
	is(t, "Rmdir", f.Rmdir("//d"), api.OK)
	lists(t, f, "/", api.Entry{Inode: 3, Name: "a"}, api.Entry{Inode: 6, Name: "f"})
	if s, e := f.StatFS(); s.UsedInodes != 3 || s.UsedPages != 2 || e != api.OK {
		t.Error("StatFS:", s, e)
	}
	// The inodes are free again, and one that was a directory's is empty.
	is(t, "Mkdir", f.Mkdir("/d"), api.OK)
	holds(t, f, "/d", api.Stat{Inode: 2, Kind: api.IDir, Links: 1})
}

func TestADirectoryComesAndGoes(t *testing.T) { // P15.4, P15.8
	_, f := fresh(t, 16, 8, 512, 2)
	used := func(pages, inodes int) {
		t.Helper()
		if s, e := f.StatFS(); s.UsedPages != pages || s.UsedInodes != inodes || e != api.OK {
			t.Error("StatFS:", s, e)
		}
	}
	for range 3 {
		is(t, "Mkdir", f.Mkdir("/d"), api.OK)
		opens(t, f, "/a", Reads|Writes|Creates, 0)
		for n := range 200 { // more than 6 pages have room for
			is(t, "Link", f.Link("/a", fmt.Sprint("/d/n", n)), api.OK)
		}
		holds(t, f, "/d", api.Stat{Inode: 2, Kind: api.IDir, Links: 1, Size: 3200, Pages: 8})
		used(9, 3)
		for n := range 200 {
			is(t, "Rmdir", f.Rmdir("/d"), api.ErrNotEmpty)
			is(t, "Unlink", f.Unlink(fmt.Sprint("/d/n", (n*7)%200)), api.OK)
		}
		holds(t, f, "/d", api.Stat{Inode: 2, Kind: api.IDir, Links: 1})
		is(t, "Rmdir", f.Rmdir("/d"), api.OK)
		is(t, "Unlink", f.Unlink("/a"), api.OK)
		is(t, "Close", f.Close(0), api.OK)
		used(0, 1)
	}
}

func TestUnlink(t *testing.T) { // P15.4
	f := planted(t)
	is(t, "Link", f.Link("/a", "/d/e/a"), api.OK)
	for _, p := range noPaths {
		stays(t, f, "Unlink of "+p.text, p.want, func() api.Errno { return f.Unlink(p.text) })
	}
	for p, want := range map[string]api.Errno{
		"/": api.ErrRoot, "//": api.ErrRoot,
		"/x": api.ErrNoEntry, "/x/y": api.ErrNoEntry, "/d/x": api.ErrNoEntry, "/a/x": api.ErrNotDir, "/d/a/x/y": api.ErrNotDir,
		"/d": api.ErrIsDir, "/d/e": api.ErrIsDir, "/f": api.ErrIsDir,
	} {
		stays(t, f, "Unlink of "+p, want, func() api.Errno { return f.Unlink(p) })
	}
	is(t, "Unlink", f.Unlink("//a/"), api.OK)
	is(t, "Unlink", f.Unlink("/a"), api.ErrNoEntry)
	holds(t, f, "/d/e/a", api.Stat{Inode: 3, Kind: api.IFile, Links: 1, Size: 2, Pages: 1})
	is(t, "Unlink", f.Unlink("/d/e/a"), api.OK)
	is(t, "Rmdir", f.Rmdir("/d/e"), api.OK)
	walks(t, f, "/", "/d", "/d/a", "/f")
	if s, e := f.StatFS(); s.UsedInodes != 4 || s.UsedPages != 3 || e != api.OK {
		t.Error("StatFS:", s, e)
	}
}

func TestLink(t *testing.T) { // P15.5
	f := planted(t)
	is(t, "Link", f.Link("/a", "/d/e/b"), api.OK)
	is(t, "Link", f.Link("/d/e/b", "/a2"), api.OK)
	for _, p := range []string{"/a", "/d/e/b", "/a2"} {
		holds(t, f, p, api.Stat{Inode: 3, Kind: api.IFile, Links: 3, Size: 2, Pages: 1})
	}
	lists(t, f, "/d/e", api.Entry{Inode: 3, Name: "b"})
	opens(t, f, "/a2", Writes|Cuts, 0)
	writes(t, f, 0, "one and the same")
	opens(t, f, "/d/e/b", Reads, 1)
	reads(t, f, 1, 99, "one and the same")

	link := func(old, to string) func() api.Errno { return func() api.Errno { return f.Link(old, to) } }
	for _, p := range noPaths {
		stays(t, f, "Link of "+p.text, p.want, link(p.text, "/x"), link(p.text, ""), link(p.text, "/"))
		stays(t, f, "Link to "+p.text, p.want, link("/a", p.text), link("/d/a", p.text))
	}
	stays(t, f, "Link of what is not there", api.ErrNoEntry, link("/x", ""), link("/x", "/a"), link("/d/x", "/y"), link("/x/a", "/"))
	stays(t, f, "Link of what is no directory", api.ErrNotDir, link("/a/x", ""), link("/d/a/x/y", "/a"))
	stays(t, f, "Link of a directory", api.ErrIsDir, link("/", ""), link("/", "/x"), link("/d", "/"), link("/d/e", "/a"), link("/f", "/x/y"))
	stays(t, f, "Link to the root", api.ErrRoot, link("/a", "/"), link("/a", "//"))
	stays(t, f, "Link to where there is nothing", api.ErrNoEntry, link("/a", "/x/y"), link("/a", "/d/x/y"))
	stays(t, f, "Link to where there is no directory", api.ErrNotDir, link("/a", "/a/x"), link("/a", "/d/a/x"), link("/a", "/a/x/y"))
	stays(t, f, "Link to what is there", api.ErrExist, link("/a", "/a"), link("/a", "/d"), link("/a", "/d/a"), link("/d/a", "/a2"))
	fills(t, f, "/d/a", 0)
	stays(t, f, "Link without a page", api.ErrSpace, link("/a", "/f/x"))
	is(t, "Link where there is room in a page", f.Link("/a", "/d/x"), api.OK)
}

func TestLinksAsManyAsMayBe(t *testing.T) { // P15.5
	_, f := fresh(t, 30, 8, 512, 2)
	grows(t, f, "/d/", "/d/n0", "/b")
	for n := 1; n < 1000; n++ {
		is(t, "Link", f.Link("/d/n0", fmt.Sprint("/d/n", n)), api.OK)
	}
	holds(t, f, "/d/n999", api.Stat{Inode: 3, Kind: api.IFile, Links: 1000, Size: 5, Pages: 1})
	link := func(old, to string) func() api.Errno { return func() api.Errno { return f.Link(old, to) } }
	stays(t, f, "one link more", api.ErrLinks, link("/d/n0", "/x"), link("/d/n500", "/d/x"))
	stays(t, f, "one link more, to what is there", api.ErrExist, link("/d/n0", "/b"), link("/d/n0", "/d/n1"), link("/d/n7", "/d"))
	stays(t, f, "one link more, to where nothing is", api.ErrNoEntry, link("/d/n0", "/x/y"))
	stays(t, f, "one link more, to where no directory is", api.ErrNotDir, link("/d/n0", "/b/x"))
	// That it has so many links is named ahead of that there is no space.
	fills(t, f, "/b", 0)
	is(t, "Mkdir", f.Mkdir("/e"), api.OK)
	stays(t, f, "one link more, without a page", api.ErrLinks, link("/d/n0", "/e/x"))
	stays(t, f, "a link without a page", api.ErrSpace, link("/b", "/e/x"))
	// Another name is no other link.
	is(t, "Rename", f.Rename("/d/n0", "/d/x"), api.OK)
	is(t, "Unlink", f.Unlink("/d/n3"), api.OK)
	is(t, "Link", f.Link("/d/x", "/y"), api.OK)
	stays(t, f, "one link more", api.ErrLinks, link("/y", "/d/n3"))
}

func TestRename(t *testing.T) { // P15.5
	f := planted(t)
	// To a name that is not there: the entry is added in the first empty slot, then the old one is removed.
	is(t, "Rename", f.Rename("/a", "/b"), api.OK)
	lists(t, f, "/", api.Entry{Inode: 2, Name: "d"}, api.Entry{Inode: 6, Name: "f"}, api.Entry{Inode: 3, Name: "b"})
	is(t, "Rename", f.Rename("/d/a", "//a/"), api.OK)
	lists(t, f, "/", api.Entry{Inode: 2, Name: "d"}, api.Entry{Inode: 5, Name: "a"}, api.Entry{Inode: 6, Name: "f"}, api.Entry{Inode: 3, Name: "b"})
	is(t, "Rename", f.Rename("/d", "/f/d"), api.OK)
	walks(t, f, "/", "/a", "/f", "/f/d", "/f/d/e", "/b")
	holds(t, f, "/f/d/e", api.Stat{Inode: 4, Kind: api.IDir, Links: 1})
	// To a name that is there.
	opens(t, f, "/b", Reads, 0)
	opens(t, f, "/a", Reads, 1)
	is(t, "Rename", f.Rename("/b", "/a"), api.OK)
	lists(t, f, "/", api.Entry{Inode: 3, Name: "a"}, api.Entry{Inode: 6, Name: "f"})
	holds(t, f, "/a", api.Stat{Inode: 3, Kind: api.IFile, Links: 1, Size: 2, Pages: 1})
	reads(t, f, 0, 9, "/a")
	reads(t, f, 1, 9, "/d/a")
	is(t, "Close", f.Close(1), api.OK)
	if s, e := f.StatFS(); s.UsedInodes != 5 || e != api.OK {
		t.Error("StatFS:", s, e)
	}
	is(t, "Mkdir", f.Mkdir("/g"), api.OK)
	is(t, "Rename", f.Rename("/f/d", "/g"), api.OK)
	walks(t, f, "/", "/g", "/g/e", "/a", "/f")
	if s, e := f.StatFS(); s.UsedInodes != 5 || s.UsedPages != 3 || e != api.OK {
		t.Error("StatFS:", s, e)
	}
	// Of a file with more names it has one link less.
	is(t, "Link", f.Link("/a", "/g/b"), api.OK)
	grows(t, f, "/c")
	is(t, "Rename", f.Rename("/c", "/g/b"), api.OK)
	holds(t, f, "/a", api.Stat{Inode: 3, Kind: api.IFile, Links: 1, Size: 2, Pages: 1})
	if s, e := f.Stat("/g/b"); s.Links != 1 || e != api.OK {
		t.Error("Stat of /g/b:", s, e)
	}
}

func TestRenameToTheSame(t *testing.T) { // P15.5
	f := planted(t)
	is(t, "Link", f.Link("/a", "/d/b"), api.OK)
	rename := func(old, to string) func() api.Errno { return func() api.Errno { return f.Rename(old, to) } }
	stays(t, f, "Rename to the same", api.OK, rename("/a", "/a"), rename("/a", "//a/"), rename("/d", "/d"), rename("/a", "/d/b"), rename("/d/b", "/a"), rename("/d/e", "//d//e"))
}

func TestRenameOfWhatMayNotBe(t *testing.T) { // P15.5, P15.10
	f := planted(t)
	rename := func(old, to string) func() api.Errno { return func() api.Errno { return f.Rename(old, to) } }
	for _, p := range noPaths {
		stays(t, f, "Rename of "+p.text, p.want, rename(p.text, "/x"), rename(p.text, ""), rename(p.text, "/"), rename(p.text, p.text))
		stays(t, f, "Rename to "+p.text, p.want, rename("/a", p.text), rename("/x", p.text), rename("/x/y", p.text))
	}
	stays(t, f, "Rename of the root", api.ErrRoot, rename("/", "/x"), rename("/", ""), rename("//", "/"), rename("/", "/./a"))
	stays(t, f, "Rename to the root", api.ErrRoot, rename("/a", "/"), rename("/x", "//"), rename("/a/b", "/"))
	stays(t, f, "Rename into itself", api.ErrInside, rename("/d", "/d/x"), rename("/d", "//d//e"), rename("/d", "/d/e/x/y"), rename("/a", "/a/x"), rename("/x", "/x/y"), rename("/x/y", "/x/y/z"), rename("/a/x", "/a/x/y"), rename("/d", "/d/a/x"))
	stays(t, f, "Rename of what is not there", api.ErrNoEntry, rename("/x", "/y"), rename("/x", "/a"), rename("/d/x", "/a/y"), rename("/x/y", "/a/y"), rename("/x", "/x"), rename("/x/y", "/d"))
	stays(t, f, "Rename of what is in no directory", api.ErrNotDir, rename("/a/x", "/y"), rename("/a/x", "/x/y"), rename("/d/a/x/y", "/d"))
	stays(t, f, "Rename to where there is nothing", api.ErrNoEntry, rename("/a", "/x/y"), rename("/d", "/x/y"), rename("/d/e", "/d/x/y"))
	stays(t, f, "Rename to where there is no directory", api.ErrNotDir, rename("/d", "/a/x"), rename("/d/a", "/a/x"), rename("/f", "/d/a/x/y"))
	stays(t, f, "Rename of a directory to a file", api.ErrNotDir, rename("/d", "/a"), rename("/f", "/d/a"), rename("/d/e", "/d/a"))
	stays(t, f, "Rename of a file to a directory", api.ErrIsDir, rename("/a", "/d"), rename("/d/a", "/f"), rename("/d/a", "/d"))
	stays(t, f, "Rename to a directory with an entry", api.ErrNotEmpty, rename("/f", "/d"), rename("/d/e", "/d"))
}

func TestRenameThatIsTooDeep(t *testing.T) { // P15.5
	_, f := fresh(t, 40, 8, 64, 2)
	deep := ""
	for range 13 {
		deep += "/x"
		is(t, "Mkdir", f.Mkdir(deep), api.OK)
	}
	grows(t, f, "/d/", "/d/e/", "/d/e/a", "/f/", "/f/a", "/g/", "/a", deep+"/d/", deep+"/d/x/", deep+"/d/x/y/")
	rename := func(old, to string) func() api.Errno { return func() api.Errno { return f.Rename(old, to) } }
	// Below /d are two names more, below /f is one.
	stays(t, f, "Rename of what is too deep", api.ErrPath, rename("/d", deep+"/d/z"), rename("/d", deep+"/d/x/z"), rename("/d", deep+"/d/x/y"), rename("/f", deep+"/d/x/y"))
	// It is named ahead of what is wrong with the name that is there, but behind that it may not be found.
	stays(t, f, "Rename of what is too deep", api.ErrPath, rename("/d", deep+"/d/x"))
	stays(t, f, "Rename to where there is nothing", api.ErrNoEntry, rename("/d", deep+"/z/z/z"))
	stays(t, f, "Rename into itself", api.ErrInside, rename("/x", deep+"/z/z/z"))
	for _, c := range []struct{ old, to string }{
		{"/a", deep + "/d/x/z"},
		{"/g", deep + "/d/x/y"},
		{"/f", deep + "/d/f"},
		{"/d", deep + "/e"},
	} {
		is(t, "Rename of "+c.old, f.Rename(c.old, c.to), api.OK)
	}
	is(t, "Rename", f.Rename(deep+"/d/f", deep+"/d/x/y"), api.ErrPath)
	n := 0
	for p := range f.Walk("/") {
		n++
		if _, e := f.Stat(p); e != api.OK {
			t.Error("Stat of", p, e)
		}
	}
	if n != 13+9 {
		t.Error("so many are below /:", n)
	}
}

func TestRenameWithoutSpace(t *testing.T) { // P15.5, P15.12
	f := planted(t)
	grows(t, f, "/b") // there are four entries in the root then, and it needs a page for the fifth one
	fills(t, f, "/a", 0)
	rename := func(old, to string) func() api.Errno { return func() api.Errno { return f.Rename(old, to) } }
	stays(t, f, "Rename without a page", api.ErrSpace, rename("/b", "/f/b"), rename("/b", "/c"), rename("/d", "/f/d"), rename("/d/a", "/c"))
	// What needs no page is done.
	is(t, "Rename to a name that is there", f.Rename("/b", "/d/a"), api.OK)
	is(t, "Rename to a directory with room", f.Rename("/a", "/d/b"), api.OK)
	is(t, "Rename to a slot that is empty", f.Rename("/f", "/c"), api.OK)
	walks(t, f, "/", "/d", "/d/e", "/d/a", "/d/b", "/c")
}
