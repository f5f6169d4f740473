package scav

import (
	"bytes"
	"fmt"
	"maps"
	"slices"
	"testing"

	"cuneiform/api"
	"cuneiform/dirs"
	"cuneiform/ftl"
	"cuneiform/inode"
	"cuneiform/nand"
	"cuneiform/node"
	"cuneiform/room"
)

// craft is what a translation is to hold, made by hand, on a chip of 16 blocks with 8 pages: 102 logical pages, of which the first 2 are the table's, and the next 36 are to be used.
type craft struct {
	size  int
	lay   room.Layout
	text  []byte
	pages map[int][]byte
}

// crafted holds a root without entries.
func crafted(size int) *craft {
	lay := room.Layout{Table: 2, First: 3, Pages: 36, Inodes: 2 * inode.PerPage(size)}
	return (&craft{size, lay, Text(lay, size-8), map[int][]byte{}}).set(1, api.Inode{Kind: api.IDir, Links: 1})
}

// copied is the same once more.
func (w *craft) copied() *craft {
	own := *w
	own.text = bytes.Clone(w.text)
	own.pages = map[int][]byte{}
	for page, b := range w.pages {
		own.pages[page] = bytes.Clone(b)
	}
	return &own
}

// put gives a page bytes, 0 behind those that are told.
func (w *craft) put(page int, b ...byte) *craft {
	all := make([]byte, w.size)
	copy(all, b)
	w.pages[page] = all
	return w
}

// full gives a page bytes of which so many are not 0.
func (w *craft) full(page, n int) *craft {
	return w.put(page, bytes.Repeat([]byte{byte(page)}, n)...)
}

// at is an inode's page of the table, and where it stands there.
func (w *craft) at(n int) (page, from int) {
	m := inode.PerPage(w.size)
	return 1 + (n-1)/m, 24 * ((n - 1) % m)
}

// set makes an inode this one.
func (w *craft) set(n int, i api.Inode) *craft {
	b, e := inode.Write(i)
	if e != api.OK {
		panic(fmt.Sprint("no inode: ", i))
	}
	return w.spoil(n, 0, b...)
}

// spoil gives an inode bytes, from one of its own on.
func (w *craft) spoil(n, k int, b ...byte) *craft {
	page, from := w.at(n)
	if w.pages[page] == nil {
		w.put(page)
	}
	copy(w.pages[page][from+k:], b)
	return w
}

// get is an inode.
func (w *craft) get(n int) api.Inode {
	page, from := w.at(n)
	if w.pages[page] == nil {
		return api.Inode{}
	}
	i, _ := inode.Read(w.pages[page][from : from+24])
	return i
}

// change changes an inode.
func (w *craft) change(n int, how func(i *api.Inode)) *craft {
	i := w.get(n)
	how(&i)
	return w.set(n, i)
}

// point gives a page of pointers one more.
func (w *craft) point(page, k, to int) *craft {
	if w.pages[page] == nil {
		w.put(page)
	}
	w.pages[page][2*k], w.pages[page][2*k+1] = byte(to), byte(to>>8)
	return w
}

// slots gives a page entries, from the slot k on; one of no name is an empty slot.
func (w *craft) slots(page, k int, l ...api.Entry) *craft {
	if w.pages[page] == nil {
		w.put(page)
	}
	copy(w.pages[page][16*k:], slotsOf(l...))
	return w
}

// slotsOf are entries' bytes.
func slotsOf(l ...api.Entry) []byte {
	var b []byte
	for _, e := range l {
		s, err := dirs.Write(e)
		if err != api.OK {
			s = make([]byte, 16)
		}
		b = append(b, s...)
	}
	return b
}

// drop leaves a page out.
func (w *craft) drop(page int) *craft {
	delete(w.pages, page)
	return w
}

// chip is a chip that holds it.
func (w *craft) chip(t *testing.T) *nand.Chip {
	t.Helper()
	c := newChip(t, 16, 8, w.size)
	f, e := ftl.Format(c, 2, make([]byte, w.size-8))
	if e != api.OK {
		t.Fatal("ftl.Format:", e)
	}
	for _, page := range slices.Sorted(maps.Keys(w.pages)) {
		if e := f.Write(uint32(page), w.pages[page]); e != api.OK {
			t.Fatalf("Write of %d: %d", page, e)
		}
	}
	if e := f.Seal(w.text); e != api.OK {
		t.Fatal("Seal:", e)
	}
	return c
}

// village is a tree with something of each kind: two directories, one of them in the other, a file of two names with pages of each level and holes, and an empty one. It takes the pages from 3 to 13, and has four inodes.
func village() *craft {
	w := crafted(64)
	w.set(1, api.Inode{Kind: api.IDir, Links: 1, Size: 64, Direct: [6]int{3}})
	w.slots(3, 0, api.Entry{Inode: 2, Name: "a"}, api.Entry{}, api.Entry{Inode: 3, Name: "d"}, api.Entry{Inode: 2, Name: "b"})
	w.set(2, api.Inode{Kind: api.IFile, Links: 2, Size: 70*64 + 10, Direct: [6]int{0: 4, 5: 5}, Single: 6, Double: 8})
	w.full(4, 64).full(5, 64).point(6, 3, 7).full(7, 64)
	w.point(8, 0, 9).point(9, 0, 10).full(10, 64).point(8, 1, 11).point(11, 0, 12).full(12, 10)
	w.set(3, api.Inode{Kind: api.IDir, Links: 1, Size: 16, Direct: [6]int{13}})
	w.slots(13, 0, api.Entry{Inode: 4, Name: "c"})
	return w.set(4, api.Inode{Kind: api.IFile, Links: 1})
}

var ofVillage = Report{Files: 2, Dirs: 2, Pages: 11}

// trial is a change of something that holds a tree, and whether it holds one then.
type trial struct {
	what   string
	change func(w *craft)
	want   *Report
}

// tried tries changes, each by itself.
func tried(t *testing.T, from *craft, l []trial) {
	t.Helper()
	for _, c := range l {
		w := from.copied()
		c.change(w)
		chip := w.chip(t)
		_, r, e := mountsAs(t, chip)
		switch {
		case c.want == nil && e != api.ErrCorrupt:
			t.Errorf("%s: Mount: %v, %d, not %d", c.what, r, e, api.ErrCorrupt)
		case c.want != nil && (e != api.OK || r != *c.want):
			t.Errorf("%s: Mount: %v, %d, not %v", c.what, r, e, *c.want)
		}
		if holds, ok := w.holds(); ok != (c.want != nil) || ok && holds != *c.want {
			t.Errorf("%s: the plain look tells %v, %v", c.what, holds, ok)
		}
	}
}

func TestVillage(t *testing.T) { // P14.2
	x := mounts(t, village().chip(t), ofVillage)
	for path, n := range map[string]int{"": 1, "a": 2, "b": 2, "d": 3, "d/c": 4} {
		var names []string
		for _, name := range bytes.Split([]byte(path), []byte("/")) {
			if len(name) > 0 {
				names = append(names, string(name))
			}
		}
		if got, e := x.Walk(names); got != n || e != api.OK {
			t.Errorf("Walk of %q: %d, %d", path, got, e)
		}
	}
	i := inodeOf(t, x, 2)
	if l := node.Pages(x.Pool(), i); !slices.Equal(l, []int{0, 5, 9, 38, 70}) || node.Takes(x.Pool(), i) != 9 {
		t.Error("Pages, Takes:", l, node.Takes(x.Pool(), i))
	}
	want := bytes.Repeat([]byte{12}, 10)
	if b, e := node.Read(x.Pool(), i, 70*64, 100); e != api.OK || !bytes.Equal(b, want) {
		t.Error("Read:", b, e)
	}
	if l := slices.Collect(x.Pool().Used()); !slices.Equal(l, []int{3, 4, 5, 6, 7, 8, 9, 10, 11, 12, 13}) || x.Pool().Dirty() != 0 {
		t.Error("Used, Dirty:", l, x.Pool().Dirty())
	}
}

func TestTheText(t *testing.T) { // P14.2: the text is the plan's
	var l []trial
	for k := range 56 {
		l = append(l, trial{fmt.Sprint("the text's byte ", k), func(w *craft) { w.text[k]++ }, nil})
	}
	for _, lay := range []room.Layout{
		{}, {Table: 2, First: 3, Pages: 35, Inodes: 4}, {Table: 2, First: 3, Pages: 37, Inodes: 4}, {Table: 1, First: 2, Pages: 36, Inodes: 4},
		{Table: 3, First: 4, Pages: 35, Inodes: 6}, {Table: 2, First: 3, Pages: 36, Inodes: 3}, {Table: 2, First: 3, Pages: 36, Inodes: 5},
	} {
		l = append(l, trial{fmt.Sprint("the text of ", lay), func(w *craft) { w.text = Text(lay, 56) }, nil})
	}
	l = append(l, trial{"no text", func(w *craft) { clear(w.text) }, nil})
	tried(t, village(), append(l, trial{"its own text", func(w *craft) { w.text = Text(w.lay, 56) }, &ofVillage}))
}

func TestHowMuchIsUsed(t *testing.T) { // P14.2: not more than Table, Pages and 1
	fill := func(w *craft, to int) {
		for page := 1; page <= to; page++ {
			if w.pages[page] == nil {
				w.full(page, 64)
			}
		}
	}
	tried(t, village(), []trial{
		{"all pages there", func(w *craft) { fill(w, 38) }, &ofVillage},
		{"and one behind them", func(w *craft) { fill(w, 39) }, nil},
		{"and one far behind them", func(w *craft) { fill(w, 38); w.full(100, 64) }, nil},
		{"as many, one far behind", func(w *craft) { fill(w, 37); w.full(101, 64) }, &ofVillage},
		{"some behind them", func(w *craft) { w.full(39, 1).full(60, 64).put(101) }, &ofVillage},
		{"many behind them", func(w *craft) {
			for page := 39; page < 64; page++ {
				w.full(page, 64)
			}
		}, &ofVillage},
		{"one more", func(w *craft) {
			for page := 39; page < 65; page++ {
				w.full(page, 64)
			}
		}, nil},
	})
}

func TestTheTable(t *testing.T) { // P14.2: each inode is read, and one that is not there is free
	lone := crafted(64)
	one := Report{Dirs: 1}
	tried(t, lone, []trial{
		{"an empty root", func(*craft) {}, &one},
		{"no table", func(w *craft) { w.drop(1) }, nil},
		{"a table page of free inodes", func(w *craft) { w.put(2) }, &one},
		{"a Kind that is none", func(w *craft) { w.spoil(4, 0, 3) }, nil},
		{"a byte that is to be 0", func(w *craft) { w.spoil(3, 1, 1) }, nil},
		{"a free inode that is not 0", func(w *craft) { w.spoil(2, 23, 1) }, nil},
		{"a free inode with links", func(w *craft) { w.spoil(2, 2, 1) }, nil},
		{"an orphan with a pointer too great", func(w *craft) { w.set(3, api.Inode{Kind: api.IFile}).spoil(3, 8, 0, 32) }, nil},
		{"bytes 255", func(w *craft) { w.spoil(4, 0, bytes.Repeat([]byte{255}, 24)...) }, nil},
		{"a root with a pointer too great", func(w *craft) { w.spoil(1, 21, 32) }, nil},
		{"bytes behind the inodes", func(w *craft) { w.spoil(2, 24, 7, 7) }, &one},
	})
	three := Report{Files: 1, Dirs: 1, Pages: 10}
	tried(t, village(), []trial{
		{"a table page that is not there", func(w *craft) { w.drop(2) }, nil},
		{"the same, and no name that needs it", func(w *craft) { w.drop(2).slots(3, 2, api.Entry{}) }, &three},
	})
}

func TestTheRoot(t *testing.T) { // P14.2
	l := []trial{
		{"free", func(w *craft) { w.set(1, api.Inode{}) }, nil},
		{"a file", func(w *craft) { w.set(1, api.Inode{Kind: api.IFile, Links: 1}) }, nil},
		{"without a link", func(w *craft) { w.change(1, func(i *api.Inode) { i.Links = 0 }) }, nil},
		{"with two links", func(w *craft) { w.change(1, func(i *api.Inode) { i.Links = 2 }) }, nil},
	}
	tried(t, crafted(64), l)
	tried(t, village(), append(l, trial{"a file with its pages", func(w *craft) { w.change(1, func(i *api.Inode) { i.Kind = api.IFile }) }, nil}))
}

// in makes a change of an inode out of one of its fields.
func in(n int, how func(i *api.Inode)) func(w *craft) {
	return func(w *craft) { w.change(n, how) }
}

func TestThePagesOfAnInode(t *testing.T) { // P14.2: an inode is sound
	more := ofVillage
	more.Pages++
	tried(t, village(), []trial{
		{"a page of the table", in(2, func(i *api.Inode) { i.Direct[1] = 2 }), nil},
		{"the first page of the table", in(2, func(i *api.Inode) { i.Direct[1] = 1 }), nil},
		{"a page that is not there", in(2, func(i *api.Inode) { i.Direct[1] = 14 }), nil},
		{"a page that is there", func(w *craft) { w.change(2, func(i *api.Inode) { i.Direct[1] = 14 }).full(14, 64) }, &more},
		{"the last page", func(w *craft) { w.change(2, func(i *api.Inode) { i.Direct[1] = 38 }).full(38, 64) }, &more},
		{"one behind it", func(w *craft) { w.change(2, func(i *api.Inode) { i.Direct[1] = 39 }).full(39, 64) }, nil},
		{"one far behind it", func(w *craft) { w.change(2, func(i *api.Inode) { i.Direct[1] = 101 }).full(101, 64) }, nil},
		{"a number of no logical page", in(2, func(i *api.Inode) { i.Direct[1] = 8191 }), nil},
		{"a page twice", in(2, func(i *api.Inode) { i.Direct[1] = 4 }), nil},
		{"a page of another file", func(w *craft) {
			w.change(4, func(i *api.Inode) { i.Direct[0], i.Size = 4, 64 })
		}, nil},
		{"a page of a directory", in(2, func(i *api.Inode) { i.Direct[1] = 13 }), nil},
		{"the root's page", func(w *craft) { w.change(4, func(i *api.Inode) { i.Direct[0], i.Size = 3, 64 }) }, nil},
		{"a page of pointers as one of bytes", in(2, func(i *api.Inode) { i.Direct[1] = 6 }), nil},
		{"a page of bytes as one of pointers", in(2, func(i *api.Inode) { i.Single = 4 }), nil},
		{"one page of pointers twice", in(2, func(i *api.Inode) { i.Single = 9 }), nil},
		{"a page of pointers of the table", in(2, func(i *api.Inode) { i.Single = 1 }), nil},
		{"a page of pointers that is not there", func(w *craft) { w.drop(6) }, nil},
		{"a page of pointers to pointers that is not there", func(w *craft) { w.drop(8) }, nil},
		{"a page of pointers that one of pointers names is not there", func(w *craft) { w.drop(11) }, nil},
		{"a page that one of pointers names is not there", func(w *craft) { w.drop(7) }, nil},
		{"a page of the last level is not there", func(w *craft) { w.drop(10) }, nil},
		{"an own page is not there", func(w *craft) { w.drop(4) }, nil},
		{"a pointer to its own page", func(w *craft) { w.point(6, 4, 6) }, nil},
		{"a pointer to a page that is named", func(w *craft) { w.point(6, 4, 7) }, nil},
		{"a pointer to the page of another one", func(w *craft) { w.point(11, 0, 13) }, nil},
		{"a pointer up", func(w *craft) { w.point(9, 1, 8) }, nil},
		{"a pointer to a page that is not there", func(w *craft) { w.point(6, 31, 20) }, nil},
		{"a pointer more", func(w *craft) { w.point(6, 31, 20).full(20, 64) }, &more},
		{"a pointer into the table", func(w *craft) { w.point(6, 4, 2) }, nil},
		{"a pointer behind the last page", func(w *craft) { w.point(9, 4, 39).full(39, 64) }, nil},
		{"a pointer of 2^13", func(w *craft) { w.point(6, 4, 8192) }, nil},
		{"a pointer of 2^13 and more", func(w *craft) { w.point(9, 31, 8192+14).full(14, 64) }, nil},
		{"a pointer of 2^16 - 1", func(w *craft) { w.point(8, 31, 65535) }, nil},
		{"a page of pointers without one", func(w *craft) { w.put(6) }, nil},
		{"a page of pointers without one in the second level", func(w *craft) { w.put(9) }, nil},
		{"a page of pointers to pointers without one", func(w *craft) { w.put(8) }, nil},
		{"another page of pointers without one", func(w *craft) { w.point(8, 2, 20).put(20) }, nil},
	})
}

func TestTheSizeOfAnInode(t *testing.T) { // P14.2: an inode is sound
	size := func(n int64) func(w *craft) { return in(2, func(i *api.Inode) { i.Size = n }) }
	// A file whose last page is full of bytes 0: it may end anywhere in it.
	hollow := village().put(12)
	tried(t, hollow, []trial{
		{"the last page's beginning", size(70 * 64), nil},
		{"one byte of the last page", size(70*64 + 1), &ofVillage},
		{"the last page's end", size(71 * 64), &ofVillage},
		{"one more", size(71*64 + 1), &ofVillage},
		{"0", size(0), nil},
		{"the first page", size(64), nil},
		{"a hole behind", size(38 * 64), nil},
		{"the greatest", size(1062 * 64), &ofVillage},
		{"one more than that", size(1062*64 + 1), nil},
		{"as much as an inode may say", size(1<<31 - 1), nil},
	})
	tried(t, village(), []trial{
		{"a byte behind that is not 0", size(70*64 + 9), nil},
		{"all bytes below", size(70*64 + 10), &ofVillage},
		{"the last byte", func(w *craft) { w.pages[12][63] = 1 }, nil},
		{"the first byte behind", func(w *craft) { w.pages[12][10] = 1 }, nil},
		{"the last byte of a full page", func(w *craft) {
			w.full(12, 64).change(2, func(i *api.Inode) { i.Size = 71*64 - 1 })
		}, nil},
		{"a full page", func(w *craft) {
			w.full(12, 64).change(2, func(i *api.Inode) { i.Size = 71 * 64 })
		}, &ofVillage},
		{"a hole at the end, and a full page ahead", func(w *craft) {
			w.full(12, 64).change(2, func(i *api.Inode) { i.Size = 71*64 + 5 })
		}, &ofVillage},
	})
	direct := Report{Files: 2, Dirs: 2, Pages: 3}
	alone := village().change(2, func(i *api.Inode) { i.Direct[5], i.Single, i.Double, i.Size = 0, 0, 0, 64 })
	tried(t, alone, []trial{
		{"one page", func(w *craft) {}, &direct},
		{"a byte less", size(63), nil},
		{"a page behind", in(2, func(i *api.Inode) { i.Direct[1] = 5 }), nil},
		{"no byte", size(0), nil},
	})
	for _, size := range []int{128, 256, 512} {
		w := crafted(size).change(1, func(i *api.Inode) { i.Size, i.Direct[0] = 16, 3 }).slots(3, 0, api.Entry{Inode: 2, Name: "a"})
		most, k := inode.Most(size), size/2
		w.set(2, api.Inode{Kind: api.IFile, Links: 1, Size: most, Double: 4}).point(4, k-1, 5).point(5, k-1, 6).full(6, size)
		tried(t, w, []trial{
			{"the greatest file", func(*craft) {}, &Report{Files: 1, Dirs: 1, Pages: 4}},
			{"a byte less", in(2, func(i *api.Inode) { i.Size-- }), nil},
			{"a byte more", in(2, func(i *api.Inode) { i.Size++ }), nil},
		})
	}
}

func TestADirectory(t *testing.T) { // P14.2: a directory is sound
	size := func(n int, size int64) func(w *craft) { return in(n, func(i *api.Inode) { i.Size = size }) }
	entry := func(k, n int, name string) func(w *craft) {
		return func(w *craft) { w.slots(3, k, api.Entry{Inode: n, Name: name}) }
	}
	less := ofVillage
	less.Files--
	tried(t, village(), []trial{
		{"a last slot that is empty", func(w *craft) { w.slots(3, 3, api.Entry{}).change(2, func(i *api.Inode) { i.Links = 1 }) }, nil},
		{"the same, cut", func(w *craft) {
			w.slots(3, 3, api.Entry{}).change(2, func(i *api.Inode) { i.Links = 1 }).change(1, func(i *api.Inode) { i.Size = 48 })
		}, &ofVillage},
		{"a part of a slot", size(1, 63), nil},
		{"a page more than there is", size(1, 65), nil},
		{"a slot more than there is", size(1, 80), nil},
		{"a slot less than there is", size(1, 48), nil},
		{"a slot that is none", func(w *craft) { w.pages[3][16] = 1 }, nil},
		{"a name that is none", func(w *craft) { w.pages[3][3] = '/' }, nil},
		{"a byte behind a name", func(w *craft) { w.pages[3][15] = 1 }, nil},
		{"a name twice", entry(3, 2, "a"), nil},
		{"another name", entry(3, 2, "zzzzzzzzzzzzz"), &ofVillage},
		{"an inode more", entry(1, 4, "e"), nil},
		{"the same, with two links", func(w *craft) { entry(1, 4, "e")(w); w.change(4, func(i *api.Inode) { i.Links = 2 }) }, &ofVillage},
		{"an inode that is free", func(w *craft) { w.set(4, api.Inode{}) }, nil},
		{"no inode at all", entry(1, 5, "e"), nil},
		{"no inode by far", entry(1, 65535, "e"), nil},
		{"the root", entry(1, 1, "e"), nil},
		{"the root, with two links", func(w *craft) { entry(1, 1, "e")(w); w.change(1, func(i *api.Inode) { i.Links = 2 }) }, nil},
		{"the root in a directory", func(w *craft) { w.slots(13, 0, api.Entry{Inode: 1, Name: "c"}).set(4, api.Inode{}) }, nil},
		{"itself in a directory", func(w *craft) { w.slots(13, 0, api.Entry{Inode: 3, Name: "c"}).set(4, api.Inode{}) }, nil},
		{"a page that it does not need", func(w *craft) { w.change(3, func(i *api.Inode) { i.Direct[1] = 20 }).put(20) }, nil},
		{"bytes behind its end", func(w *craft) { w.slots(13, 1, api.Entry{Inode: 2, Name: "e"}) }, nil},
		{"its page not there", func(w *craft) { w.drop(13) }, nil},
		{"no pointer to its page", in(3, func(i *api.Inode) { i.Direct[0] = 0 }), nil},
		{"an empty one", func(w *craft) {
			w.set(3, api.Inode{Kind: api.IDir, Links: 1}).set(4, api.Inode{})
		}, &Report{Files: 1, Dirs: 2, Pages: 10}},
		{"one in one in one", func(w *craft) { w.change(4, func(i *api.Inode) { i.Kind = api.IDir }) }, &Report{Files: 1, Dirs: 3, Pages: 11}},
	})
}

func TestADirectoryOfManyPages(t *testing.T) { // P14.2: a directory is sound
	// 120 slots of the size 64 take 30 pages of bytes, and one of pointers; only the slots of the first and the last page are not empty.
	w := crafted(64).set(2, api.Inode{Kind: api.IFile, Links: 2})
	w.set(1, api.Inode{Kind: api.IDir, Links: 1, Size: 120 * 16, Direct: [6]int{3, 4, 5, 6, 7, 8}, Single: 9})
	for n := range 24 {
		w.point(9, n, 10+n).put(10 + n)
	}
	for page := 3; page < 9; page++ {
		w.put(page)
	}
	w.slots(3, 0, api.Entry{Inode: 2, Name: "first"}).slots(33, 3, api.Entry{Inode: 2, Name: "last"})
	tried(t, w, []trial{
		{"many pages", func(*craft) {}, &Report{Files: 1, Dirs: 1, Pages: 31}},
		{"a hole", func(w *craft) { w.point(9, 7, 0) }, nil},
		{"a hole in front", in(1, func(i *api.Inode) { i.Direct[3] = 0 }), nil},
		{"a hole at the end", func(w *craft) { w.point(9, 23, 0).change(2, func(i *api.Inode) { i.Links = 1 }) }, nil},
		{"the same name on two pages", func(w *craft) { w.slots(33, 3, api.Entry{Inode: 2, Name: "first"}) }, nil},
		{"a slot that is none, on a page between", func(w *craft) { w.full(20, 1) }, nil},
		{"two pages told one for the other", func(w *craft) { w.point(9, 23, 32).point(9, 22, 33) }, nil},
		{"two empty pages told one for the other", func(w *craft) { w.point(9, 12, 13).point(9, 3, 22) }, &Report{Files: 1, Dirs: 1, Pages: 31}},
	})
}

func TestNamesAndLinks(t *testing.T) { // P14.2: a directory is named once, a file as often as its links say
	links := func(n, l int) func(w *craft) { return in(n, func(i *api.Inode) { i.Links = l }) }
	more := ofVillage
	tried(t, village(), []trial{
		{"a file with a link too few", links(2, 1), nil},
		{"a file with no link", links(2, 0), nil},
		{"a file with a link too many", links(2, 3), nil},
		{"a file with all links", links(2, 1000), nil},
		{"another file with no link", links(4, 0), nil},
		{"another file with two", links(4, 2), nil},
		{"a directory with no link", links(3, 0), nil},
		{"a directory with two", links(3, 2), nil},
		{"a directory named twice", func(w *craft) { w.slots(3, 1, api.Entry{Inode: 3, Name: "e"}) }, nil},
		{"a directory named twice, with two links", func(w *craft) {
			w.slots(3, 1, api.Entry{Inode: 3, Name: "e"}).change(3, func(i *api.Inode) { i.Links = 2 })
		}, nil},
		{"an empty directory named twice, with two links", func(w *craft) {
			w.set(4, api.Inode{Kind: api.IDir, Links: 2}).slots(3, 1, api.Entry{Inode: 4, Name: "e"})
		}, nil},
		{"an empty directory named twice, with one", func(w *craft) {
			w.set(4, api.Inode{Kind: api.IDir, Links: 1}).slots(3, 1, api.Entry{Inode: 4, Name: "e"})
		}, nil},
		{"a file named in two directories", func(w *craft) {
			w.slots(13, 1, api.Entry{Inode: 2, Name: "c2"}).change(3, func(i *api.Inode) { i.Size = 32 }).change(2, func(i *api.Inode) { i.Links = 3 })
		}, &more},
		{"a file that nothing names, with a link", func(w *craft) {
			w.set(3, api.Inode{Kind: api.IDir, Links: 1})
		}, nil},
		{"a directory that nothing names, with a link", func(w *craft) { w.slots(3, 2, api.Entry{}) }, nil},
		{"two directories in one another", func(w *craft) {
			w.slots(3, 2, api.Entry{}).set(4, api.Inode{Kind: api.IDir, Links: 1, Size: 16, Direct: [6]int{20}}).slots(20, 0, api.Entry{Inode: 3, Name: "d"})
		}, nil},
		{"a directory in itself", func(w *craft) {
			w.slots(3, 2, api.Entry{}).slots(13, 0, api.Entry{Inode: 3, Name: "c"}).set(4, api.Inode{})
		}, nil},
	})
	// A name for each of many links.
	w := crafted(512).set(2, api.Inode{Kind: api.IFile, Links: 150})
	w.set(1, api.Inode{Kind: api.IDir, Links: 1, Size: 150 * 16, Direct: [6]int{3, 4, 5, 6, 7}})
	for k := range 150 {
		w.slots(3+k/32, k%32, api.Entry{Inode: 2, Name: fmt.Sprint("n", k)})
	}
	tried(t, w, []trial{
		{"many names", func(*craft) {}, &Report{Files: 1, Dirs: 1, Pages: 5}},
		{"one of them of another file", func(w *craft) {
			w.slots(5, 3, api.Entry{Inode: 3, Name: "x"}).set(3, api.Inode{Kind: api.IFile, Links: 1})
		}, nil},
		{"the same, with a link less", func(w *craft) {
			w.slots(5, 3, api.Entry{Inode: 3, Name: "x"}).set(3, api.Inode{Kind: api.IFile, Links: 1}).change(2, func(i *api.Inode) { i.Links-- })
		}, &Report{Files: 2, Dirs: 1, Pages: 5}},
	})
}

func TestOrphans(t *testing.T) { // P14.2
	// Of what an orphan names nothing is asked.
	wild := api.Inode{Kind: api.IFile, Size: 1<<31 - 1, Direct: [6]int{8191, 1, 4, 4, 20, 39}, Single: 2, Double: 7}
	big := crafted(512) // 42 inodes
	row := func(n int, i api.Inode) func(w *craft) {
		return func(w *craft) {
			for k := range n {
				w.set(42-k, i)
			}
		}
	}
	file, dir := api.Inode{Kind: api.IFile}, api.Inode{Kind: api.IDir}
	tried(t, big, []trial{
		{"one", row(1, file), &Report{Dirs: 1, Orphans: 1}},
		{"a directory", row(1, dir), &Report{Dirs: 1, Orphans: 1}},
		{"15", row(15, file), &Report{Dirs: 1, Orphans: 15}},
		{"16", row(16, dir), &Report{Dirs: 1, Orphans: 16}},
		{"16 wild ones", row(16, wild), &Report{Dirs: 1, Orphans: 16}},
		{"17", row(17, file), nil},
		{"17 directories", row(17, dir), nil},
		{"all", row(41, file), nil},
		{"with a link", row(1, api.Inode{Kind: api.IFile, Links: 1}), nil},
		{"a directory with a link", row(1, api.Inode{Kind: api.IDir, Links: 1}), nil},
		{"with all links", row(1, api.Inode{Kind: api.IFile, Links: 1000}), nil},
		{"one of 16 with a link", func(w *craft) { row(16, file)(w); w.set(30, api.Inode{Kind: api.IFile, Links: 1}) }, nil},
	})
	tried(t, village(), []trial{
		{"a file's name gone, and its links", func(w *craft) {
			w.slots(3, 0, api.Entry{}).slots(3, 3, api.Entry{}).change(1, func(i *api.Inode) { i.Size = 48 }).change(2, func(i *api.Inode) { i.Links = 0 })
		}, &Report{Files: 1, Dirs: 2, Pages: 2, Orphans: 1}},
		{"a directory's name gone, with all below it", func(w *craft) {
			w.slots(3, 2, api.Entry{}).change(3, func(i *api.Inode) { i.Links = 0 }).change(4, func(i *api.Inode) { i.Links = 0 })
		}, &Report{Files: 1, Dirs: 1, Pages: 10, Orphans: 2}},
		{"a directory's name gone, and one below it has a link", func(w *craft) {
			w.slots(3, 2, api.Entry{}).change(3, func(i *api.Inode) { i.Links = 0 })
		}, nil},
		{"an orphan names what has a name", func(w *craft) {
			w.slots(3, 2, api.Entry{Inode: 4, Name: "c"}).change(3, func(i *api.Inode) { i.Links = 0 })
		}, &Report{Files: 2, Dirs: 1, Pages: 10, Orphans: 1}},
		{"an orphan has pages of a file", func(w *craft) {
			w.slots(13, 0, api.Entry{}).change(3, func(i *api.Inode) { i.Size = 0; i.Direct[0] = 0 }).set(4, wild)
		}, &Report{Files: 1, Dirs: 2, Pages: 10, Orphans: 1}},
	})
}

func TestOrphansAreFree(t *testing.T) { // P14.2, P14.4
	w := crafted(256) // 20 inodes
	w.set(1, api.Inode{Kind: api.IDir, Links: 1, Size: 16, Direct: [6]int{3}}).slots(3, 0, api.Entry{Inode: 12, Name: "a"})
	w.set(12, api.Inode{Kind: api.IFile, Links: 1, Size: 500, Direct: [6]int{5, 8}}).full(5, 256).full(8, 244)
	w.set(2, api.Inode{Kind: api.IFile, Size: 256, Direct: [6]int{4}}).full(4, 256)
	w.set(9, api.Inode{Kind: api.IDir, Size: 16, Direct: [6]int{6}}).slots(6, 0, api.Entry{Inode: 12, Name: "a"})
	// One that has a page of a file that has a name: that one keeps it.
	w.set(20, api.Inode{Kind: api.IFile, Size: 512, Direct: [6]int{5, 7}}).full(7, 256)
	c := w.chip(t)
	r := Report{Files: 1, Dirs: 1, Pages: 3, Orphans: 3}
	x := mounts(t, c, r)
	want := told(t, x)
	for _, n := range []int{2, 9, 20} {
		if i := inodeOf(t, x, n); i != (api.Inode{}) {
			t.Errorf("the orphan %d: %v", n, i)
		}
	}
	p := x.Pool()
	if l := slices.Collect(p.Used()); !slices.Equal(l, []int{3, 5, 8}) || x.Used() != 2 || p.Dirty() != 2 {
		t.Error("Used, Dirty:", l, x.Used(), p.Dirty())
	}
	// It is not committed yet: they are found again.
	mounts(t, c, r)
	// What they had is handed out anew, with bytes 0.
	again := []int{4, 6, 7, 9}
	for _, want := range again {
		page, e := p.Alloc()
		if page != want || e != api.OK {
			t.Errorf("Alloc: %d, %d, not %d", page, e, want)
		}
		if b, e := p.Get(page); e != api.OK || !zero(b) {
			t.Errorf("the page %d: %v, %d", page, b, e)
		}
	}
	for _, page := range again {
		is(t, "Free", p.Free(page), api.OK)
	}
	if n, e := x.Make(api.IFile); n != 2 || e != api.OK {
		t.Error("Make:", n, e)
	}
	is(t, "Drop", x.Drop(2), api.OK)
	is(t, "Commit", p.Commit(Text(p.Layout(), 248)), api.OK)
	r.Orphans = 0
	y := mounts(t, c, r)
	if got := told(t, y); got != want {
		t.Errorf("mounted:\n%s\nnot\n%s", got, want)
	}
}
