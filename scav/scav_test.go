package scav

import (
	"bytes"
	"fmt"
	"math"
	"slices"
	"strings"
	"testing"

	"cuneiform/api"
	"cuneiform/ftl"
	"cuneiform/inode"
	"cuneiform/nand"
	"cuneiform/node"
	"cuneiform/room"
	"cuneiform/tree"
)

var sizes = []int{64, 128, 256, 512}

// is fails the test, if an answer is another one than asked for.
func is(t *testing.T, what string, got, want api.Errno) {
	t.Helper()
	if got != want {
		t.Errorf("%s: %d, not %d", what, got, want)
	}
}

// newChip is a chip of so many blocks and pages.
func newChip(t *testing.T, blocks, pages, size int, bad ...int) *nand.Chip {
	t.Helper()
	c, e := nand.New(api.Geo{Blocks: blocks, Pages: pages, Size: size}, bad)
	if e != api.OK {
		t.Fatal("the chip:", e)
	}
	return c
}

// formats is the tree of a chip that can be formatted.
func formats(t *testing.T, c *nand.Chip, reserve int) *tree.Tree {
	t.Helper()
	x, e := Format(c, reserve)
	if e != api.OK || x == nil {
		t.Fatal("Format:", e)
	}
	return x
}

// mounts is the tree of a chip that holds one.
func mounts(t *testing.T, c *nand.Chip, want Report) *tree.Tree {
	t.Helper()
	x, r, e := mountsAs(t, c)
	if e != api.OK || r != want {
		t.Fatalf("Mount: %v, %d, not %v", r, e, want)
	}
	return x
}

// mountsAs is what Mount answers; it fails the test, if that is not as it may be, whatever the chip holds.
func mountsAs(t *testing.T, c *nand.Chip) (*tree.Tree, Report, api.Errno) {
	t.Helper()
	before, strokes := dumped(c), c.Strokes()
	x, r, e := Mount(c)
	if c.Strokes() != strokes || dumped(c) != before {
		t.Error("Mount changed the chip")
	}
	if e != api.OK {
		if x != nil || r != (Report{}) {
			t.Errorf("Mount beside an error: %v, %v", x, r)
		}
		return x, r, e
	}
	sane(t, x, r)
	return x, r, e
}

// refuses fails the test, if something is found on a chip that holds no tree.
func refuses(t *testing.T, what string, c *nand.Chip) {
	t.Helper()
	if _, r, e := mountsAs(t, c); e != api.ErrCorrupt {
		t.Errorf("%s: Mount: %v, %d", what, r, e)
	}
}

// dumped is all that stands on a chip.
func dumped(c *nand.Chip) string {
	pages, bad, wear := c.Dump()
	var b strings.Builder
	for _, p := range pages {
		fmt.Fprintf(&b, "%d:%s", len(p), p)
	}
	fmt.Fprint(&b, bad, wear)
	return b.String()
}

// told is all that is reached from a tree's root, a line for each name, and what is used.
func told(t *testing.T, x *tree.Tree) string {
	t.Helper()
	var b strings.Builder
	var tell func(path string, n int)
	tell = func(path string, n int) {
		i, e := x.Inode(n)
		if e != api.OK {
			t.Fatalf("Inode(%d): %d", n, e)
		}
		fmt.Fprintf(&b, "%s: %d, kind %d, links %d, size %d, pages %v", path, n, i.Kind, i.Links, i.Size, node.Pages(x.Pool(), i))
		for _, k := range node.Pages(x.Pool(), i) {
			part, e := node.Read(x.Pool(), i, int64(k)*int64(x.Pool().Size()), x.Pool().Size())
			fmt.Fprintf(&b, " %x %d", part, e)
		}
		b.WriteByte('\n')
		if i.Kind != api.IDir {
			return
		}
		for _, entry := range x.Entries(n) {
			tell(path+"/"+entry.Name, entry.Inode)
		}
	}
	tell("", 1)
	return b.String()
}

// sane fails the test, if a tree that was mounted is not as each is: directories hang together, each inode is named as often as its links say, no page has two owners, and none is used that has none.
func sane(t *testing.T, x *tree.Tree, r Report) {
	t.Helper()
	p := x.Pool()
	names := map[int]int{1: 1}
	owner := map[int]int{}
	var found Report
	for row := []int{1}; len(row) > 0; row = row[1:] {
		n := row[0]
		i, e := x.Inode(n)
		if e != api.OK || names[n] == 1 && i.Kind == api.IFree {
			t.Fatalf("Inode(%d): %v, %d", n, i, e)
		}
		takes := 0
		for page := range node.Owned(p, i) {
			takes++
			if owner[page] != 0 {
				t.Errorf("the page %d is %d's, and %d's", page, owner[page], n)
			}
			owner[page] = n
		}
		if takes != node.Takes(p, i) {
			t.Errorf("the inode %d takes %d, and has %d", n, node.Takes(p, i), takes)
		}
		if want, e := room.File(p.Size(), node.Pages(p, i)); e != api.OK || want != takes {
			t.Errorf("the inode %d takes %d, and room says %d, %d", n, takes, want, e)
		}
		if i.Kind == api.IFile {
			found.Files++
			continue
		}
		found.Dirs++
		for _, entry := range x.Entries(n) {
			names[entry.Inode]++
			if names[entry.Inode] == 1 {
				row = append(row, entry.Inode)
			} else if i, _ := x.Inode(entry.Inode); i.Kind == api.IDir {
				t.Fatalf("the directory %d is named twice", entry.Inode)
			}
		}
	}
	for n := 1; n <= p.Layout().Inodes; n++ {
		if i, e := x.Inode(n); e != api.OK || i.Links != names[n] || (i.Kind == api.IFree) != (names[n] == 0) {
			t.Errorf("the inode %d: %v, %d, and has %d names", n, i, e, names[n])
		}
	}
	used := 0
	for page := range p.Used() {
		used++
		if owner[page] == 0 {
			t.Errorf("the page %d is nobody's, and used", page)
		}
	}
	found.Pages, found.Orphans = len(owner), r.Orphans
	if used != len(owner) || p.Room() != p.Layout().Pages-used || found != r || x.Used() != r.Files+r.Dirs {
		t.Errorf("found %v, told %v; used %d, free %d; %d inodes used", found, r, used, p.Room(), x.Used())
	}
	if r.Orphans < 0 || r.Orphans > 16 || (r.Orphans == 0) != (p.Dirty() == 0) {
		t.Errorf("%d orphans, and %d pages dirty", r.Orphans, p.Dirty())
	}
}

// empty fails the test, if a tree has something else than an empty root.
func empty(t *testing.T, x *tree.Tree) {
	t.Helper()
	if i, e := x.Inode(1); e != api.OK || i != (api.Inode{Kind: api.IDir, Links: 1}) {
		t.Errorf("the root: %v, %d", i, e)
	}
	for n := 2; n <= x.Pool().Layout().Inodes; n++ {
		if i, e := x.Inode(n); e != api.OK || i != (api.Inode{}) {
			t.Errorf("the inode %d: %v, %d", n, i, e)
		}
	}
	if b, e := x.Bytes(1); e != api.OK || len(b) != 0 {
		t.Errorf("the root's bytes: %v, %d", b, e)
	}
	p := x.Pool()
	if p.Dirty() != 0 || p.Room() != p.Layout().Pages || x.Used() != 1 || p.ReadOnly() {
		t.Error("Dirty, Room, Used, ReadOnly:", p.Dirty(), p.Room(), x.Used(), p.ReadOnly())
	}
}

func TestText(t *testing.T) { // P14.1
	for _, c := range []struct {
		lay  room.Layout
		n    int
		want []byte
	}{
		{room.Layout{Table: 2, First: 3, Pages: 36, Inodes: 4}, 12, []byte{67, 85, 78, 69, 1, 0, 2, 0, 36, 0, 4, 0}},
		{room.Layout{Table: 2, First: 3, Pages: 36, Inodes: 4}, 13, []byte{67, 85, 78, 69, 1, 0, 2, 0, 36, 0, 4, 0, 0}},
		{room.Layout{Table: 247, First: 248, Pages: 3719, Inodes: 5187}, 15, []byte{67, 85, 78, 69, 1, 0, 247, 0, 135, 14, 67, 20, 0, 0, 0}},
		{room.Layout{Table: 508, First: 509, Pages: 7620, Inodes: 65535}, 12, []byte{67, 85, 78, 69, 1, 0, 252, 1, 196, 29, 255, 255}},
		{room.Layout{}, 12, []byte{67, 85, 78, 69, 1, 0, 0, 0, 0, 0, 0, 0}},
		{room.Layout{First: 999}, 12, []byte{67, 85, 78, 69, 1, 0, 0, 0, 0, 0, 0, 0}},
	} {
		if b := Text(c.lay, c.n); !bytes.Equal(b, c.want) {
			t.Errorf("Text(%v, %d): %v, not %v", c.lay, c.n, b, c.want)
		}
		for _, size := range sizes {
			if b := Text(c.lay, size-8); len(b) != size-8 || !bytes.Equal(b[:12], c.want[:12]) || !zero(b[12:]) {
				t.Errorf("Text(%v, %d): %v", c.lay, size-8, b)
			}
		}
	}
	lay := room.Layout{Table: 2, First: 3, Pages: 36, Inodes: 4}
	for _, n := range []int{11, 10, 6, 1, 0, -1, -12, math.MinInt, math.MaxInt, math.MaxInt - 1} {
		if b := Text(lay, n); len(b) != 0 {
			t.Errorf("Text of %d bytes: %v", n, b)
		}
	}
	for _, x := range []int{-1, math.MinInt, math.MaxInt, 1 << 16} {
		if b := Text(room.Layout{Table: x, First: x, Pages: x, Inodes: x}, 20); len(b) != 20 {
			t.Errorf("Text of %d: %v", x, b)
		}
	}
	b := Text(lay, 20)
	clear(b)
	if b := Text(lay, 20); b[0] != 67 || b[6] != 2 {
		t.Error("Text again:", b)
	}
}

func TestExample(t *testing.T) { // P14.1, P14.2
	c := newChip(t, 16, 8, 64)
	refuses(t, "a new chip", c)
	x := formats(t, c, 2)
	want := room.Layout{Table: 2, First: 3, Pages: 36, Inodes: 4}
	if lay := x.Pool().Layout(); lay != want {
		t.Error("Layout:", lay)
	}
	if f, e := ftl.Open(c); e != api.OK || f.Capacity() != 102 {
		t.Error("Capacity:", e)
	}
	x = mounts(t, c, Report{Dirs: 1})
	if lay := x.Pool().Layout(); lay != want {
		t.Error("Layout:", lay)
	}
	empty(t, x)
}

// geos are some geometries, with a reserve and blocks that are bad, that there is a plan for.
var geos = []struct {
	blocks, pages, size, reserve int
	bad                          []int
}{
	{8, 14, 64, 1, nil}, // 6 data blocks, Capacity 82: the least plan
	{8, 32, 64, 4, nil}, // 3 data blocks
	{8, 32, 512, 1, []int{0, 7, 3}},
	{16, 8, 64, 2, nil},
	{16, 8, 128, 1, []int{4}},
	{16, 8, 256, 2, nil},
	{23, 4, 64, 1, nil}, // Capacity 82 again
	{40, 5, 128, 10, []int{39, 38}},
	{128, 4, 64, 30, nil},
	{128, 32, 64, 1, nil},
	{128, 32, 512, 1, nil},
	{64, 9, 512, 20, []int{1, 1, 2}},
}

func TestFormat(t *testing.T) { // P14.1, P14.5
	for _, g := range geos {
		c := newChip(t, g.blocks, g.pages, g.size, g.bad...)
		x := formats(t, c, g.reserve)
		f, e := ftl.Open(c)
		if e != api.OK {
			t.Fatal("ftl.Open:", e)
		}
		lay, e := room.Plan(g.size, f.Capacity())
		if e != api.OK {
			t.Fatal("Plan:", e)
		}
		if got := x.Pool().Layout(); got != lay {
			t.Errorf("%v: Layout %v, not %v", g, got, lay)
		}
		empty(t, x)
		// It is committed: the root is there, and else nothing.
		if !bytes.Equal(f.Text(), Text(lay, g.size-8)) || !slices.Equal(slices.Collect(f.Pages()), []uint32{1}) {
			t.Errorf("%v: the text %v, the pages %v", g, f.Text(), slices.Collect(f.Pages()))
		}
		want := make([]byte, g.size)
		want[0], want[2] = 2, 1
		if b, e := f.Read(1); e != api.OK || !bytes.Equal(b, want) {
			t.Errorf("%v: the table: %v, %d", g, b, e)
		}
		empty(t, mounts(t, c, Report{Dirs: 1}))
		// The tree goes on.
		n, e := x.Make(api.IFile)
		if n != 2 || e != api.OK || x.Add(1, "a", 2) != api.OK {
			t.Errorf("%v: Make: %d, %d", g, n, e)
		}
		empty(t, mounts(t, c, Report{Dirs: 1}))
	}
}

func TestFormatAnew(t *testing.T) { // P14.1, P14.5
	c := newChip(t, 16, 8, 64)
	for round := range 5 {
		reserve := 1 + round%3
		x := formats(t, c, reserve)
		empty(t, x)
		for k := range 3 {
			n, _ := x.Make(api.IFile)
			i, e := node.Write(x.Pool(), api.Inode{Kind: api.IFile, Links: 1}, int64(k*600), bytes.Repeat([]byte{9}, 100))
			if e != api.OK || x.Set(n, i) != api.OK || x.Add(1, fmt.Sprint("f", k), n) != api.OK {
				t.Fatal("a file:", e)
			}
		}
		is(t, "Commit", x.Pool().Commit(Text(x.Pool().Layout(), 56)), api.OK)
		want := told(t, x)
		y := mounts(t, c, Report{Files: 3, Dirs: 1, Pages: 10})
		if got := told(t, y); got != want {
			t.Errorf("mounted:\n%s\nnot\n%s", got, want)
		}
	}
}

func TestFormatOfWhatMayNotBe(t *testing.T) { // P14.1, P1
	down := newChip(t, 16, 8, 64)
	down.Lose()
	small := newChip(t, 8, 4, 64)
	small.Lose()
	for _, c := range []struct {
		what    string
		chip    *nand.Chip
		reserve int
		want    api.Errno
	}{
		{"no chip", nil, 2, api.ErrNil},
		{"no chip, and no reserve", nil, 0, api.ErrNil},
		{"a chip that is none", &nand.Chip{}, 2, api.ErrDown},
		{"a chip that is down", down, 2, api.ErrDown},
		{"a chip that is down, and no reserve", down, -1, api.ErrDown},
		{"a chip that is down, and too small", small, 1, api.ErrDown},
		{"no reserve", newChip(t, 16, 8, 64), 0, api.ErrArg},
		{"less", newChip(t, 16, 8, 64), -1, api.ErrArg},
		{"much less", newChip(t, 16, 8, 64), math.MinInt, api.ErrArg},
		{"too much", newChip(t, 16, 8, 64), 1<<15 + 1, api.ErrArg},
		{"much too much", newChip(t, 16, 8, 64), math.MaxInt, api.ErrArg},
		{"no reserve on a chip too small", newChip(t, 8, 4, 64), 0, api.ErrArg},
		{"all as a reserve", newChip(t, 16, 8, 64), 1 << 15, api.ErrFull},
		{"one data block", newChip(t, 16, 8, 64), 14, api.ErrFull},
		{"a chip without a plan", newChip(t, 8, 4, 64), 1, api.ErrFull},
		{"Capacity 81, and none is for that", newChip(t, 8, 13, 64), 1, api.ErrFull}, // 76
		{"a reserve too great", newChip(t, 16, 8, 64), 5, api.ErrFull},               // 78
		{"bad blocks", newChip(t, 16, 8, 64, 1, 2, 3, 4), 1, api.ErrFull},
		{"no good block", newChip(t, 8, 32, 64, 0, 1, 2, 3, 4, 5, 6, 7), 1, api.ErrFull},
	} {
		before, strokes := dumped(c.chip), c.chip.Strokes()
		x, e := Format(c.chip, c.reserve)
		if x != nil || e != c.want || c.chip.Strokes() != strokes || dumped(c.chip) != before {
			t.Errorf("%s: %v, %d, not %d", c.what, x, e, c.want)
		}
	}
	// One more data block each, and there is a plan.
	formats(t, newChip(t, 16, 8, 64), 4)
	formats(t, newChip(t, 16, 8, 64, 1, 2, 3), 1)
	formats(t, newChip(t, 8, 14, 64), 1)
}

func TestWhatHasNoPlanStays(t *testing.T) { // P14.1
	c := newChip(t, 16, 8, 64)
	x := formats(t, c, 2)
	n, _ := x.Make(api.IFile)
	i, _ := x.Inode(n)
	i.Links = 1
	is(t, "Set", x.Set(n, i), api.OK)
	is(t, "Add", x.Add(1, "a", n), api.OK)
	is(t, "Commit", x.Pool().Commit(Text(x.Pool().Layout(), 56)), api.OK)
	before, want := dumped(c), told(t, x)
	for _, reserve := range []int{0, -7, 5, 9, 13, 14, 1 << 14, 1 << 16} {
		if _, e := Format(c, reserve); e != api.ErrArg && e != api.ErrFull {
			t.Errorf("Format with %d: %d", reserve, e)
		}
		if dumped(c) != before {
			t.Errorf("a Format with %d that was refused changed the chip", reserve)
		}
	}
	if got := told(t, mounts(t, c, Report{Files: 1, Dirs: 1, Pages: 1})); got != want {
		t.Errorf("mounted:\n%s\nnot\n%s", got, want)
	}
	// An error of formatting is named first, also where there is no plan.
	for _, kind := range []int{api.Ahead, api.Within} {
		d := c.Copy()
		is(t, "Script", d.Script([]api.Fault{{At: 3, Kind: kind}}), api.OK)
		if x, e := Format(d, 9); x != nil || e != api.ErrDown || d.Up() {
			t.Error("Format where the power goes, and there is no plan:", x, e)
		}
	}
}

func TestFormatWhereBlocksFail(t *testing.T) { // P14.1
	failing := func(c *nand.Chip, from, n int) {
		var l []api.Fault
		for k := range n {
			l = append(l, api.Fault{At: from + k, Kind: api.Failed})
		}
		is(t, "Script", c.Script(l), api.OK)
	}
	// Blocks that fail in the erasing leave less room, and then none for a plan.
	for n, want := range []api.Errno{api.OK, api.OK, api.OK, api.ErrFull, api.ErrFull} {
		c := newChip(t, 16, 8, 64)
		failing(c, 4, n)
		x, e := Format(c, 2) // 13 data blocks; 10 have Capacity 78
		if e != want || (x == nil) != (e != api.OK) {
			t.Fatalf("with %d that fail: %v, %d, not %d", n, x, e, want)
		}
		if e == api.OK {
			if lay := x.Pool().Layout(); lay.Pages != 36-8*n || c.Bad(3+n) != (n > 0) {
				t.Errorf("with %d that fail: %v", n, lay)
			}
			empty(t, mounts(t, c, Report{Dirs: 1}))
		} else if _, _, e := Mount(c); e != api.ErrCorrupt {
			t.Errorf("with %d that fail: Mount: %d", n, e)
		}
	}
	// The reserve does not last: in the first seal (that is formatting), and in what is committed.
	for from := 16; from <= 19; from++ {
		for n, want := range []api.Errno{api.OK, api.OK, api.OK, api.ErrReserve} {
			c := newChip(t, 16, 8, 64)
			failing(c, from, n)
			x, e := Format(c, 2)
			// As soon as the commit is sealed, what fails plays no part.
			if from == 19 {
				want = api.OK
			}
			if e != want || (x == nil) != (e != api.OK) {
				t.Fatalf("with %d that fail from %d on: %v, %d, not %d", n, from, x, e, want)
			}
			if _, _, e := mountsAs(t, c); (e == api.OK) != (want == api.OK) {
				t.Errorf("with %d that fail from %d on: Mount: %d", n, from, e)
			}
		}
	}
}

func TestFormatWhereThePowerGoes(t *testing.T) { // P14.1, P14.3, P14.5
	made := newChip(t, 16, 8, 64)
	x := formats(t, made, 2)
	grown := addFiles(t, x)
	for _, chip := range []*nand.Chip{newChip(t, 16, 8, 64), newChip(t, 8, 20, 128, 2), made} {
		d := chip.Copy()
		before := d.Strokes()
		formats(t, d, 1)
		strokes := d.Strokes() - before
		for at := range strokes + 1 {
			for _, kind := range []int{api.Ahead, api.Within} {
				c := chip.Copy()
				is(t, "Script", c.Script([]api.Fault{{At: at, Kind: kind}}), api.OK)
				x, e := Format(c, 1)
				if at == strokes {
					empty(t, x)
				} else if x != nil || e != api.ErrDown {
					t.Fatalf("the power goes at %d: %v, %d", at, x, e)
				}
				if _, _, e := Mount(c); at < strokes && e != api.ErrDown {
					t.Error("Mount of a chip that is down:", e)
				}
				c.Start()
				y, r, e := mountsAs(t, c)
				switch {
				case e == api.OK && at == strokes:
					empty(t, y)
				case e == api.OK && at == 0 && kind == api.Ahead && chip == made:
					if got := told(t, y); got != grown {
						t.Errorf("mounted:\n%s\nnot\n%s", got, grown)
					}
				case e == api.OK && chip != made || e != api.OK && e != api.ErrCorrupt || at == strokes:
					t.Errorf("the power went at %d, Mount: %v, %d", at, r, e)
				}
				// It can be formatted then.
				is(t, "Script", c.Script(nil), api.OK)
				empty(t, formats(t, c, 1))
				empty(t, mounts(t, c, Report{Dirs: 1}))
			}
		}
	}
}

// addFiles adds some to a new tree, commits it, and tells all.
func addFiles(t *testing.T, x *tree.Tree) string {
	t.Helper()
	for k, kind := range []int{api.IDir, api.IFile, api.IFile} {
		n, e := x.Make(kind)
		if e != api.OK {
			t.Fatal("Make:", e)
		}
		i := api.Inode{Kind: kind}
		if kind == api.IFile {
			if i, e = node.Write(x.Pool(), i, int64(500*k), []byte("what stands here")); e != api.OK {
				t.Fatal("Write:", e)
			}
		}
		i.Links = 1
		is(t, "Set", x.Set(n, i), api.OK)
		is(t, "Add", x.Add(min(n-1, 2), fmt.Sprint("n", n), n), api.OK) // the first one in the root, the others in it
	}
	is(t, "Commit", x.Pool().Commit(Text(x.Pool().Layout(), x.Pool().Size()-8)), api.OK)
	return told(t, x)
}

func TestMountOfWhatMayNotBe(t *testing.T) { // P14.2, P1
	if x, r, e := Mount(nil); x != nil || r != (Report{}) || e != api.ErrNil {
		t.Error("Mount of nil:", x, r, e)
	}
	if x, r, e := Mount(&nand.Chip{}); x != nil || r != (Report{}) || e != api.ErrDown {
		t.Error("Mount of a chip that is none:", x, r, e)
	}
	c := newChip(t, 16, 8, 64)
	formats(t, c, 2)
	c.Lose()
	if x, r, e := Mount(c); x != nil || r != (Report{}) || e != api.ErrDown {
		t.Error("Mount of a chip that is down:", x, r, e)
	}
	c.Start()
	mounts(t, c, Report{Dirs: 1})
	for k := range 16 {
		is(t, "Mark", c.Mark(k), api.OK)
	}
	refuses(t, "a chip all of whose blocks are bad", c)
	for _, size := range sizes {
		c := newChip(t, 16, 8, size)
		_, e := ftl.Format(c, 2, make([]byte, size-8))
		is(t, "ftl.Format", e, api.OK)
		refuses(t, "a translation without a tree", c)
		// A translation that there is no plan for holds none, whatever it says.
		c = newChip(t, 8, 4, size)
		f, e := ftl.Format(c, 1, Text(room.Layout{}, size-8))
		is(t, "ftl.Format", e, api.OK)
		page, e := inode.Put(make([]byte, size), 0, api.Inode{Kind: api.IDir, Links: 1})
		is(t, "Put", e, api.OK)
		is(t, "Write", f.Write(1, page), api.OK)
		is(t, "Seal", f.Seal(Text(room.Layout{}, size-8)), api.OK)
		refuses(t, "a translation without a plan", c)
	}
}

func TestMountIsOfWhatIsCommitted(t *testing.T) { // P14.2, P14.4
	for _, size := range sizes {
		c := newChip(t, 16, 8, size)
		x := formats(t, c, 2)
		want := addFiles(t, x)
		r := Report{Files: 2, Dirs: 2, Pages: node.Takes(x.Pool(), inodeOf(t, x, 3)) + node.Takes(x.Pool(), inodeOf(t, x, 4)) + 2}
		// What is not committed is not found.
		is(t, "Remove", x.Remove(2, "n3"), api.OK)
		is(t, "Drop", x.Drop(3), api.OK)
		for range 3 {
			y := mounts(t, c, r)
			if got := told(t, y); got != want {
				t.Fatalf("mounted:\n%s\nnot\n%s", got, want)
			}
			// What is done with one of the trees the next one does not see.
			is(t, "Add", y.Add(1, "more", 3), api.OK)
		}
		// What is committed by a tree that was mounted is found.
		y := mounts(t, c, r)
		is(t, "Remove", y.Remove(2, "n3"), api.OK)
		is(t, "Drop", y.Drop(3), api.OK)
		is(t, "Commit", y.Pool().Commit(Text(y.Pool().Layout(), size-8)), api.OK)
		want = told(t, y)
		r.Files, r.Pages = 1, node.Takes(y.Pool(), inodeOf(t, y, 4))+2
		if got := told(t, mounts(t, c, r)); got != want {
			t.Errorf("mounted:\n%s\nnot\n%s", got, want)
		}
	}
}

// inodeOf is an inode that there has to be.
func inodeOf(t *testing.T, x *tree.Tree, n int) api.Inode {
	t.Helper()
	i, e := x.Inode(n)
	if e != api.OK {
		t.Fatalf("Inode(%d): %d", n, e)
	}
	return i
}
