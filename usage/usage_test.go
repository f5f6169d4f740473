package usage

import (
	"math/rand"
	"slices"
	"strings"
	"testing"

	"cuneiform/api"
	"cuneiform/fs"
	"cuneiform/scav"
)

// sums fails the test, if Of answers something else.
func sums(t *testing.T, f *fs.FS, p string, want Sum) {
	t.Helper()
	if s, e := Of(f, p); s != want || e != api.OK {
		t.Errorf("Of %q: %+v, %d, not %+v", p, s, e, want)
	}
}

// shares fails the test, if Shares answers something else.
func shares(t *testing.T, f *fs.FS, p string, want ...Share) {
	t.Helper()
	if l, e := Shares(f, p); !slices.Equal(l, want) || e != api.OK {
		t.Errorf("Shares of %q: %+v, %d, not %+v", p, l, e, want)
	}
}

func TestExamples(t *testing.T) { // P23.1
	_, f := some(t)
	sums(t, f, "/", Sum{})
	shares(t, f, "/")
	grows(t, f, "/a=xyz")
	sums(t, f, "/", Sum{Files: 1, Names: 1, Bytes: 3, Pages: 1, Deepest: 1})
	shares(t, f, "/", Share{"a", Sum{Files: 1, Names: 1, Bytes: 3, Pages: 1, Deepest: 1}})
}

func TestOf(t *testing.T) { // P23.1
	_, f := some(t)
	grows(t, f, "/e", "/d", "/d/a=xyz", "/d/d", "/d/d/d", "/z=", "/d/d/b="+strings.Repeat("x", 385))
	// 385 bytes are seven pages, and one of pointers; three directories have an entry, and so a page; one page is the root's.
	sums(t, f, "/", Sum{Files: 3, Dirs: 4, Names: 7, Bytes: 388, Pages: 11, Deepest: 3})
	for _, p := range []string{"/d", "/d/", "//d//", "/d" + strings.Repeat("/", 253)} {
		sums(t, f, p, Sum{Files: 2, Dirs: 2, Names: 4, Bytes: 388, Pages: 10, Deepest: 2})
	}
	sums(t, f, "/d/d", Sum{Files: 1, Dirs: 1, Names: 2, Bytes: 385, Pages: 8, Deepest: 1})
	sums(t, f, "/d/d/d", Sum{})
	sums(t, f, "/e", Sum{})
}

func TestOfEachInodeOnce(t *testing.T) { // P23.1
	_, f := some(t)
	grows(t, f, "/a=12345", "/b>/a", "/d", "/d/c>/a", "/d/e=12", "/f>/d/e", "/g=")
	sums(t, f, "/", Sum{Files: 3, Dirs: 1, Names: 7, Bytes: 7, Pages: 3, Deepest: 2})
	sums(t, f, "/d", Sum{Files: 2, Names: 2, Bytes: 7, Pages: 2, Deepest: 1})
	shares(t, f, "/",
		Share{"a", Sum{Files: 1, Names: 1, Bytes: 5, Pages: 1, Deepest: 1}},
		Share{"b", Sum{Names: 1, Deepest: 1}},
		Share{"d", Sum{Files: 1, Dirs: 1, Names: 3, Bytes: 2, Pages: 2, Deepest: 2}},
		Share{"f", Sum{Names: 1, Deepest: 1}},
		Share{"g", Sum{Files: 1, Names: 1, Deepest: 1}})
	// What was counted in one call is counted again in another one.
	shares(t, f, "/d", Share{"c", Sum{Files: 1, Names: 1, Bytes: 5, Pages: 1, Deepest: 1}}, Share{"e", Sum{Files: 1, Names: 1, Bytes: 2, Pages: 1, Deepest: 1}})
	sums(t, f, "/", Sum{Files: 3, Dirs: 1, Names: 7, Bytes: 7, Pages: 3, Deepest: 2})
}

func TestSharesInOrder(t *testing.T) { // P23.1: as List tells the entries, whatever their names
	_, f := some(t)
	grows(t, f, "/d", "/b=1", "/a", "/a!=", "/a/d", "/a/d/a=12", "/d/b>/a/d/a", "/c")
	is(t, "Unlink", f.Unlink("/b"), api.OK)
	grows(t, f, "/a.b") // it stands in the place of /b
	shares(t, f, "/",
		Share{"d", Sum{Files: 1, Dirs: 1, Names: 2, Bytes: 2, Pages: 2, Deepest: 2}},
		Share{"a.b", Sum{Dirs: 1, Names: 1, Deepest: 1}},
		Share{"a", Sum{Dirs: 2, Names: 3, Pages: 2, Deepest: 3}},
		Share{"a!", Sum{Files: 1, Names: 1, Deepest: 1}},
		Share{"c", Sum{Dirs: 1, Names: 1, Deepest: 1}})
	shares(t, f, "//a//",
		Share{"d", Sum{Files: 1, Dirs: 1, Names: 2, Bytes: 2, Pages: 2, Deepest: 2}})
	shares(t, f, "/c")
}

func TestSparseFiles(t *testing.T) { // P23.1: bytes are sizes, pages those that are there
	_, f := some(t)
	grows(t, f, "/a=", "/b=x")
	is(t, "Truncate", f.Truncate("/a", 1<<15), api.OK)
	is(t, "Truncate", f.Truncate("/b", 1000), api.OK)
	sums(t, f, "/", Sum{Files: 2, Names: 2, Bytes: 1<<15 + 1000, Pages: 1, Deepest: 1})
}

func TestDeep(t *testing.T) { // P23.1
	_, f := some(t)
	for k := range 15 {
		grows(t, f, strings.Repeat("/abcdefghijklm", k+1))
	}
	last := strings.Repeat("/abcdefghijklm", 15)
	grows(t, f, last+"/a=x", "/b>"+last+"/a")
	sums(t, f, "/", Sum{Files: 1, Dirs: 15, Names: 17, Bytes: 1, Pages: 16, Deepest: 16})
	sums(t, f, last, Sum{Files: 1, Names: 1, Bytes: 1, Pages: 1, Deepest: 1})
	shares(t, f, "/",
		Share{"abcdefghijklm", Sum{Files: 1, Dirs: 15, Names: 16, Bytes: 1, Pages: 16, Deepest: 16}},
		Share{"b", Sum{Names: 1, Deepest: 1}})
}

func TestDeeperThanPathsLead(t *testing.T) { // P1: of a chip that was written by trees alone; what Walk does not tell is not added up
	c, _ := some(t)
	tr, e := scav.Format(c, 2)
	is(t, "Format", e, api.OK)
	at := 1
	for range 17 {
		n, _ := tr.Make(api.IDir)
		i, _ := tr.Inode(n)
		i.Links = 1
		is(t, "Set", tr.Set(n, i), api.OK)
		is(t, "Add", tr.Add(at, "a", n), api.OK)
		at = n
	}
	is(t, "Commit", tr.Pool().Commit(scav.Text(tr.Pool().Layout(), 56)), api.OK)
	f, e := fs.Mount(c)
	is(t, "Mount", e, api.OK)
	sums(t, f, "/", Sum{Dirs: 16, Names: 16, Pages: 16, Deepest: 16})
	sums(t, f, strings.Repeat("/a", 16), Sum{})
	shares(t, f, strings.Repeat("/a", 16), Share{Name: "a"})
}

func TestRefused(t *testing.T) { // P23.1, P1
	c, f := some(t)
	grows(t, f, "/d", "/a=x")
	refused := func(f *fs.FS, p string, want api.Errno) {
		t.Helper()
		if s, e := Of(f, p); s != (Sum{}) || e != want {
			t.Errorf("Of %q: %v, %d, not %d", p, s, e, want)
		}
		if l, e := Shares(f, p); len(l) > 0 || e != want {
			t.Errorf("Shares of %q: %v, %d, not %d", p, l, e, want)
		}
	}
	for p, want := range wrongPaths {
		refused(f, p, want)
		refused(nil, p, api.ErrNil)
		refused(&fs.FS{}, p, api.ErrNil)
	}
	c.Lose()
	for p := range wrongPaths {
		refused(f, p, api.ErrDown)
	}
	refused(f, "/", api.ErrDown)
	_, f = some(t)
	is(t, "Unmount", f.Unmount(), api.OK)
	refused(f, "/", api.ErrNil)
}

func TestNothingIsChanged(t *testing.T) { // P23.1: nor is a handle asked for
	c, f := some(t)
	grows(t, f, "/d", "/d/a=xyz")
	for range api.MaxHandles {
		_, e := f.Open("/d/a", fs.Reads)
		is(t, "Open", e, api.OK)
	}
	strokes := c.Strokes()
	before, _ := f.StatFS()
	sums(t, f, "/", Sum{Files: 1, Dirs: 1, Names: 2, Bytes: 3, Pages: 2, Deepest: 2})
	l, _ := Shares(f, "/")
	after, _ := f.StatFS()
	if before != after || c.Strokes() != strokes {
		t.Error("something was changed")
	}
	l[0] = Share{}
	shares(t, f, "/", Share{"d", Sum{Files: 1, Dirs: 1, Names: 2, Bytes: 3, Pages: 2, Deepest: 2}})
}

func TestByChance(t *testing.T) { // P23.1, P23.3, P23.4
	r := rand.New(rand.NewSource(1))
	for range 150 {
		_, f := some(t)
		plants(r, f, 60)
		for _, p := range dirsOf(f) {
			sums(t, f, p, ofTold(f, strings.TrimSuffix(p, "/")))
			shares(t, f, p, sharesTold(f, strings.TrimSuffix(p, "/"))...)
			var all Sum
			l, _ := Shares(f, p)
			for _, x := range l {
				all = Add(all, x.Sum)
			}
			sums(t, f, p, all)
		}
		allUsed(t, f, 0)
	}
}

// allUsed fails the test, if the root's pages, its own, and so many more are not all that are used.
func allUsed(t *testing.T, f *fs.FS, more int) {
	t.Helper()
	s, e := Of(f, "/")
	is(t, "Of", e, api.OK)
	root, e := f.Stat("/")
	is(t, "Stat", e, api.OK)
	all, e := f.StatFS()
	is(t, "StatFS", e, api.OK)
	if s.Pages+root.Pages+more != all.UsedPages {
		t.Errorf("%d pages, %d of the root, %d more, but %d are used", s.Pages, root.Pages, more, all.UsedPages)
	}
}

func TestAllThatIsUsed(t *testing.T) { // P23.4
	_, f := some(t)
	allUsed(t, f, 0)
	grows(t, f, "/d", "/d/a="+strings.Repeat("x", 1000), "/b>/d/a", "/c=12")
	allUsed(t, f, 0)
	h, e := f.Open("/c", fs.Reads)
	is(t, "Open", e, api.OK)
	allUsed(t, f, 0)
	is(t, "Unlink", f.Unlink("/c"), api.OK)
	allUsed(t, f, 1) // of the file that is open, and that nothing names
	is(t, "Close", f.Close(h), api.OK)
	allUsed(t, f, 0)
	is(t, "Unlink", f.Unlink("/b"), api.OK)
	is(t, "Unlink", f.Unlink("/d/a"), api.OK)
	is(t, "Rmdir", f.Rmdir("/d"), api.OK)
	allUsed(t, f, 0)
	sums(t, f, "/", Sum{})
}
