package fs

import (
	"slices"
	"testing"

	"cuneiform/api"
	"cuneiform/nand"
	"cuneiform/node"
	"cuneiform/scav"
	"cuneiform/tag"
)

func TestList(t *testing.T) { // P15.6
	f := planted(t)
	lists(t, f, "/", api.Entry{Inode: 2, Name: "d"}, api.Entry{Inode: 3, Name: "a"}, api.Entry{Inode: 6, Name: "f"})
	lists(t, f, "//d/", api.Entry{Inode: 4, Name: "e"}, api.Entry{Inode: 5, Name: "a"})
	lists(t, f, "/f")
	// A slot that was left is taken first.
	is(t, "Unlink", f.Unlink("/a"), api.OK)
	grows(t, f, "/z", "/y")
	lists(t, f, "/", api.Entry{Inode: 2, Name: "d"}, api.Entry{Inode: 3, Name: "z"}, api.Entry{Inode: 6, Name: "f"}, api.Entry{Inode: 7, Name: "y"})
	l, _ := f.List("/")
	clear(l)
	lists(t, f, "/", api.Entry{Inode: 2, Name: "d"}, api.Entry{Inode: 3, Name: "z"}, api.Entry{Inode: 6, Name: "f"}, api.Entry{Inode: 7, Name: "y"})
	for _, p := range noPaths {
		if l, e := f.List(p.text); len(l) != 0 || e != p.want {
			t.Errorf("List of %q: %v, %d, not %d", p.text, l, e, p.want)
		}
	}
	for p, want := range map[string]api.Errno{"/x": api.ErrNoEntry, "/x/y": api.ErrNoEntry, "/z": api.ErrNotDir, "/d/a": api.ErrNotDir, "/z/x": api.ErrNotDir} {
		if l, e := f.List(p); len(l) != 0 || e != want {
			t.Errorf("List of %q: %v, %d, not %d", p, l, e, want)
		}
	}
}

func TestStat(t *testing.T) { // P15.6
	for _, size := range sizes {
		_, f := fresh(t, 22, 8, size, 2)
		grows(t, f, "/d/", "/d/a")
		holds(t, f, "/", api.Stat{Inode: 1, Kind: api.IDir, Links: 1, Size: 16, Pages: 1})
		holds(t, f, "/d", api.Stat{Inode: 2, Kind: api.IDir, Links: 1, Size: 16, Pages: 1})
		holds(t, f, "//d//a/", api.Stat{Inode: 3, Kind: api.IFile, Links: 1, Size: 4, Pages: 1})
		opens(t, f, "/d/a", Writes, 0)
		pages := 1
		for _, c := range []struct {
			at   int64
			more int
		}{{5, 1}, {6, 2}, {7, 1}, {5 + int64(size/2), 1}, {6 + int64(size/2), 3}, {6 + int64(size), 2}, {7 + int64(size), 1}} {
			seeks(t, f, 0, c.at*int64(size), 0, c.at*int64(size))
			writes(t, f, 0, "x")
			pages += c.more
			holds(t, f, "/d/a", api.Stat{Inode: 3, Kind: api.IFile, Links: 1, Size: c.at*int64(size) + 1, Pages: pages})
		}
		for _, p := range noPaths {
			if s, e := f.Stat(p.text); s != (api.Stat{}) || e != p.want {
				t.Errorf("Stat of %q: %v, %d, not %d", p.text, s, e, p.want)
			}
		}
		for p, want := range map[string]api.Errno{"/x": api.ErrNoEntry, "/x/y": api.ErrNoEntry, "/d/x": api.ErrNoEntry, "/d/a/x": api.ErrNotDir} {
			if s, e := f.Stat(p); s != (api.Stat{}) || e != want {
				t.Errorf("Stat of %q: %v, %d, not %d", p, s, e, want)
			}
		}
	}
}

func TestWalk(t *testing.T) { // P15.6
	f := planted(t)
	grows(t, f, "/d/e/x", "/f/y", "/f/z/")
	is(t, "Link", f.Link("/a", "/d/e/a"), api.OK)
	all := []string{"/d", "/d/e", "/d/e/x", "/d/e/a", "/d/a", "/a", "/f", "/f/y", "/f/z"}
	walks(t, f, "/", all...)
	walks(t, f, "///", all...)
	walks(t, f, "//d/", "/d/e", "/d/e/x", "/d/e/a", "/d/a")
	walks(t, f, "/d/e", "/d/e/x", "/d/e/a")
	for _, p := range []string{"/f/z", "/a", "/f/y", "/x", "/x/y", "/a/x", "", "a", "/.", "/d/.."} {
		walks(t, f, p)
	}
	// As far as they are asked for.
	for n := range all {
		var l []string
		for p := range f.Walk("/") {
			if l = append(l, p); len(l) == n+1 {
				break
			}
		}
		if !slices.Equal(l, all[:n+1]) {
			t.Errorf("Walk as far as %d: %q", n+1, l)
		}
	}
	// They are those of the time when it is called, as often as they are asked for, and each may be removed meanwhile.
	w := f.Walk("/d")
	for range 2 {
		var l []string
		for p, s := range w {
			l = append(l, p)
			if s.Kind == api.IFile {
				f.Unlink(p)
			}
		}
		if !slices.Equal(l, []string{"/d/e", "/d/e/x", "/d/e/a", "/d/a"}) {
			t.Errorf("Walk: %q", l)
		}
	}
	walks(t, f, "/", "/d", "/d/e", "/a", "/f", "/f/y", "/f/z")
}

func TestWalkOfWhatIsDeeperThanPaths(t *testing.T) { // P15.6, P15.5, P1: of a chip that another program wrote
	c := newChip(t, 40, 8, 64)
	x, e := scav.Format(c, 2)
	is(t, "Format", e, api.OK)
	for n := 1; n < 20; n++ {
		k, e := x.Make(api.IDir)
		is(t, "Make", e, api.OK)
		i, e := x.Inode(k)
		is(t, "Inode", e, api.OK)
		i.Links = 1
		is(t, "Set", x.Set(k, i), api.OK)
		is(t, "Add", x.Add(n, "d", k), api.OK)
	}
	is(t, "Commit", x.Pool().Commit(scav.Text(x.Pool().Layout(), 56)), api.OK)
	f := mounts(t, c)
	// What has no path is not told of.
	n := 0
	for p, s := range f.Walk("/d/d") {
		if got, e := f.Stat(p); got != s || e != api.OK {
			t.Error("Stat of", p, got, s, e)
		}
		n++
	}
	if n != 14 {
		t.Error("so many are below /d/d:", n)
	}
	is(t, "Rename", f.Rename("/d/d/d", "/x"), api.ErrPath)
	is(t, "Rename", f.Rename("/d/d/d/d", "/x"), api.OK)
}

// forges gives a page that an inode owns other bytes, where it stands on the chip.
func forges(t *testing.T, c *nand.Chip, f *FS, n int, change func(b []byte)) {
	t.Helper()
	i, e := f.t.Inode(n)
	is(t, "Inode", e, api.OK)
	for page := range node.Owned(f.t.Pool(), i) {
		for k := range c.Geo().Blocks {
			var l [][]byte
			for _, b := range c.Pages(k) {
				x, payload, e := tag.Read(b)
				if e == api.OK && int(x.Page) == page {
					change(payload)
					b, e = tag.Write(x, payload)
					is(t, "tag.Write", e, api.OK)
				}
				l = append(l, b)
			}
			is(t, "Erase", c.Erase(k), api.OK)
			for at, b := range l {
				is(t, "Program", c.Program(k, at, b), api.OK)
			}
		}
	}
}

func TestWalkOfWhatGoesInCircles(t *testing.T) { // P1
	c, f := some(t)
	grows(t, f, "/d/", "/d/a/", "/d/b/", "/d/c/", "/d/d/", "/e/")
	is(t, "Sync", f.Sync(), api.OK)
	forges(t, c, f, 2, func(b []byte) {
		for k := 0; k < len(b); k += 16 {
			b[k] = 2
		}
	})
	lists(t, f, "/d", api.Entry{Inode: 2, Name: "a"}, api.Entry{Inode: 2, Name: "b"}, api.Entry{Inode: 2, Name: "c"}, api.Entry{Inode: 2, Name: "d"})
	n := 0
	for range f.Walk("/") {
		n++
	}
	if n < 6 {
		t.Error("so many are below /:", n)
	}
	is(t, "Rename", f.Rename("/d", "/e/d"), api.OK)
	if _, e := Mount(c); e != api.ErrCorrupt {
		t.Error("Mount:", e)
	}
}
