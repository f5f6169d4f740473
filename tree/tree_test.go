package tree

import (
	"bytes"
	"maps"
	"math"
	"slices"
	"testing"

	"cuneiform/api"
	"cuneiform/ftl"
	"cuneiform/inode"
	"cuneiform/nand"
	"cuneiform/pool"
	"cuneiform/room"
)

var sizes = []int{64, 128, 256, 512}

// nowhere are numbers of no inode, in whatever tree.
var nowhere = []int{0, -1, -2, -1 << 16, -1 << 32, -1<<32 + 1, math.MinInt, math.MinInt + 1, 1 << 16, 1 << 17, 1<<32 + 1, math.MaxInt - 1, math.MaxInt}

// is fails the test, if an answer is another one than asked for.
func is(t *testing.T, what string, got, want api.Errno) {
	t.Helper()
	if got != want {
		t.Errorf("%s: %d, not %d", what, got, want)
	}
}

// fresh is a tree with so many pages of a table and others, on a new chip of pages of that size.
func fresh(t *testing.T, size, table, pages int) (*nand.Chip, *Tree) {
	t.Helper()
	return laid(t, size, room.Layout{Table: table, First: table + 1, Pages: pages, Inodes: table * inode.PerPage(size)})
}

// laid is a tree of a layout on a new chip.
func laid(t *testing.T, size int, lay room.Layout) (*nand.Chip, *Tree) {
	t.Helper()
	blocks := max(8, 2*(lay.Table+lay.Pages)/32+5)
	c, e := nand.New(api.Geo{Blocks: min(blocks, 128), Pages: 32, Size: size}, nil)
	if e != api.OK {
		t.Fatal("New:", e)
	}
	f, e := ftl.Format(c, 1, make([]byte, size-8))
	if e != api.OK {
		t.Fatal("Format:", e)
	}
	p, e := pool.Open(f, lay, nil)
	if e != api.OK {
		t.Fatal("pool.Open:", e)
	}
	x, e := Open(p)
	if e != api.OK || x == nil {
		t.Fatal("Open:", e)
	}
	return c, x
}

// again is the tree that is found on a chip, of a pool of which just these pages are used.
func again(t *testing.T, c *nand.Chip, lay room.Layout, used []int) *Tree {
	t.Helper()
	f, e := ftl.Open(c)
	if e != api.OK {
		t.Fatal("ftl.Open:", e)
	}
	p, e := pool.Open(f, lay, used)
	if e != api.OK {
		t.Fatal("pool.Open:", e)
	}
	x, e := Open(p)
	if e != api.OK {
		t.Fatal("Open:", e)
	}
	return x
}

// makes makes an inode, which has to be of that number.
func makes(t *testing.T, x *Tree, kind, want int) {
	t.Helper()
	if n, e := x.Make(kind); n != want || e != api.OK {
		t.Fatalf("Make(%d): %d, %d, not %d", kind, n, e, want)
	}
}

// adds adds entries to a directory.
func adds(t *testing.T, x *Tree, dir, n int, names ...string) {
	t.Helper()
	for _, name := range names {
		if e := x.Add(dir, name, n); e != api.OK {
			t.Fatalf("Add(%d, %q, %d): %d", dir, name, n, e)
		}
	}
}

// removes removes entries of a directory.
func removes(t *testing.T, x *Tree, dir int, names ...string) {
	t.Helper()
	for _, name := range names {
		if e := x.Remove(dir, name); e != api.OK {
			t.Fatalf("Remove(%d, %q): %d", dir, name, e)
		}
	}
}

// inodeOf is an inode that there has to be.
func inodeOf(t *testing.T, x *Tree, n int) api.Inode {
	t.Helper()
	i, e := x.Inode(n)
	if e != api.OK {
		t.Fatalf("Inode(%d): %d", n, e)
	}
	return i
}

// slots are the bytes of entries, one behind the other; an entry of no name is an empty slot.
func slots(l ...api.Entry) []byte {
	var b []byte
	for _, e := range l {
		s := make([]byte, 16)
		s[0], s[1], s[2] = byte(e.Inode), byte(e.Inode>>8), byte(len(e.Name))
		copy(s[3:], e.Name)
		b = append(b, s...)
	}
	return b
}

// holds fails the test, if a directory's slots are other ones, or if they are told otherwise.
func holds(t *testing.T, x *Tree, dir int, l ...api.Entry) {
	t.Helper()
	b, e := x.Bytes(dir)
	if e != api.OK || !bytes.Equal(b, slots(l...)) {
		t.Errorf("Bytes(%d): %v, %d, not %v", dir, b, e, l)
	}
	if i := inodeOf(t, x, dir); i.Size != int64(16*len(l)) {
		t.Errorf("a directory of %d slots has the size %d", len(l), i.Size)
	}
	k := -1
	for n, entry := range x.Entries(dir) {
		if n <= k || n >= len(l) || l[n] != entry || entry.Name == "" {
			t.Errorf("Entries(%d): %d, %v; %v", dir, n, entry, l)
			return
		}
		if slices.ContainsFunc(l[k+1:n], func(e api.Entry) bool { return e.Name != "" }) {
			t.Errorf("Entries(%d): one between %d and %d is left out", dir, k, n)
		}
		k = n
	}
	if slices.ContainsFunc(l[k+1:], func(e api.Entry) bool { return e.Name != "" }) {
		t.Errorf("Entries(%d): one behind %d is left out", dir, k)
	}
	for _, entry := range l {
		if n, e := x.Find(dir, entry.Name); entry.Name != "" && (n != entry.Inode || e != api.OK) {
			t.Errorf("Find(%d, %q): %d, %d, not %d", dir, entry.Name, n, e, entry.Inode)
		}
	}
	takes, _ := room.Dir(x.Pool().Size(), len(l))
	if n := takesOf(x, inodeOf(t, x, dir)); n != takes {
		t.Errorf("a directory of %d slots takes %d pages, not %d", len(l), n, takes)
	}
}

// takesOf is how many of the pool's pages an inode takes, by its pointers alone.
func takesOf(x *Tree, i api.Inode) int {
	n := 0
	for _, page := range append(i.Direct[:], i.Single, i.Double) {
		if page != 0 {
			n++
		}
	}
	below := func(page int) []int {
		b, _ := x.Pool().Get(page)
		var l []int
		for _, to := range inode.Pointers(b) {
			l = append(l, to)
		}
		return l
	}
	n += len(below(i.Single))
	for _, page := range below(i.Double) {
		n += 1 + len(below(page))
	}
	return n
}

// state is what a pool holds.
type state struct {
	dirty, room int
	used        []int
	pages       map[int]string
}

func stateOf(x *Tree) state {
	p := x.Pool()
	s := state{p.Dirty(), p.Room(), slices.Collect(p.Used()), map[int]string{}}
	for page := range p.Layout().First + p.Layout().Pages {
		if b, e := p.Get(page); e == api.OK {
			s.pages[page] = string(b)
		}
	}
	return s
}

// stays fails the test, if something of a tree's pool changed.
func (s state) stays(t *testing.T, x *Tree) {
	t.Helper()
	now := stateOf(x)
	if now.dirty != s.dirty || now.room != s.room || !slices.Equal(now.used, s.used) || !maps.Equal(now.pages, s.pages) {
		t.Errorf("the pool changed: dirty %d, room %d, used %v; it was dirty %d, room %d, used %v", now.dirty, now.room, now.used, s.dirty, s.room, s.used)
	}
}

// filled uses up all but so many of a pool's free pages, and tells those that it took.
func filled(t *testing.T, x *Tree, left int) []int {
	t.Helper()
	var l []int
	for x.Pool().Room() > left {
		page, e := x.Pool().Alloc()
		if e != api.OK {
			t.Fatal("Alloc:", e)
		}
		l = append(l, page)
	}
	return l
}

// some is an inode that is right.
func some(n int) api.Inode {
	return api.Inode{Kind: 1 + n%2, Links: n % 1001, Size: int64(n) * 77, Direct: [6]int{n, 0, n + 1, 8191, 0, 1}, Single: n + 2, Double: n + 3}
}

func TestExample(t *testing.T) { // P13.1 to P13.3
	_, x := fresh(t, 64, 2, 20)
	if i := inodeOf(t, x, 1); i != (api.Inode{}) {
		t.Error("Inode(1) of a new tree:", i)
	}
	makes(t, x, api.IDir, 1)
	makes(t, x, api.IFile, 2)
	adds(t, x, 1, 2, "a")
	if n, e := x.Walk([]string{"a"}); n != 2 || e != api.OK {
		t.Error("Walk of a:", n, e)
	}
	if n, e := x.Walk([]string{"a", "b"}); n != 0 || e != api.ErrNotDir {
		t.Error("Walk of a, b:", n, e)
	}
}

func TestOpen(t *testing.T) { // P13.1, P13.4
	if x, e := Open(nil); x != nil || e != api.ErrNil {
		t.Error("Open of nil:", x, e)
	}
	c, x := fresh(t, 64, 2, 20)
	before := stateOf(x)
	y, e := Open(x.Pool())
	if e != api.OK || y == nil || y.Pool() != x.Pool() {
		t.Error("Open:", y, e)
	}
	before.stays(t, x)
	// It keeps nothing of its own: what one tree of a pool changes the other one has.
	makes(t, x, api.IDir, 1)
	makes(t, y, api.IDir, 2)
	adds(t, y, 1, 2, "d")
	if n, e := x.Walk([]string{"d"}); n != 2 || e != api.OK || x.Used() != 2 || y.Used() != 2 {
		t.Error("the other tree:", n, e, x.Used(), y.Used())
	}
	c.Lose()
	if y, e := Open(x.Pool()); e != api.OK || y.Pool() != x.Pool() {
		t.Error("Open on a chip that is down:", y, e)
	}
}

func TestNil(t *testing.T) { // P13.1 to P13.4, P1
	var x *Tree
	right := api.Inode{Kind: api.IFile}
	for _, n := range append([]int{1, 2}, nowhere...) {
		if i, e := x.Inode(n); e != api.ErrNil || i != (api.Inode{}) {
			t.Error("Inode:", i, e)
		}
		is(t, "Set", x.Set(n, right), api.ErrNil)
		is(t, "Set of what is not right", x.Set(n, api.Inode{Kind: 3}), api.ErrNil)
		if m, e := x.Make(n); e != api.ErrNil || m != 0 {
			t.Error("Make:", m, e)
		}
		is(t, "Drop", x.Drop(n), api.ErrNil)
		if b, e := x.Bytes(n); e != api.ErrNil || len(b) != 0 {
			t.Error("Bytes:", b, e)
		}
		for _, name := range []string{"", "a", "/"} {
			if m, e := x.Find(n, name); e != api.ErrNil || m != 0 {
				t.Error("Find:", m, e)
			}
			is(t, "Add", x.Add(n, name, n), api.ErrNil)
			is(t, "Remove", x.Remove(n, name), api.ErrNil)
			is(t, "Turn", x.Turn(n, name, n), api.ErrNil)
		}
		for k, entry := range x.Entries(n) {
			t.Error("Entries:", k, entry)
		}
	}
	for _, names := range [][]string{nil, {}, {"a"}, {"", "/"}} {
		if n, e := x.Walk(names); e != api.ErrNil || n != 0 {
			t.Error("Walk:", n, e)
		}
	}
	if x.Used() != 0 || x.Pool() != nil {
		t.Error("Used, Pool:", x.Used(), x.Pool())
	}
}

func TestWhereInodesStand(t *testing.T) { // P13.1
	for _, size := range sizes {
		m := inode.PerPage(size)
		_, x := fresh(t, size, 3, 20)
		for n := 1; n <= 3*m; n++ {
			is(t, "Set", x.Set(n, some(n)), api.OK)
		}
		for n := 1; n <= 3*m; n++ {
			page, e := x.Pool().Get(1 + (n-1)/m)
			if e != api.OK {
				t.Fatal("Get:", e)
			}
			if i, e := inode.Get(page, (n-1)%m); e != api.OK || i != some(n) {
				t.Errorf("of the size %d, the inode %d: in the table stands %v, %d", size, n, i, e)
			}
		}
		// And what stands there is told.
		page := make([]byte, size)
		page, _ = inode.Put(page, m-1, some(50))
		is(t, "Put", x.Pool().Put(2, page), api.OK)
		for n := 1; n <= 3*m; n++ {
			want := some(n)
			if n > m && n <= 2*m {
				want = api.Inode{}
			}
			if n == 2*m {
				want = some(50)
			}
			if i := inodeOf(t, x, n); i != want {
				t.Errorf("of the size %d, Inode(%d): %v, not %v", size, n, i, want)
			}
		}
		if x.Used() != 2*m+1 {
			t.Error("Used:", x.Used())
		}
	}
}

func TestInodesThatThereAreNot(t *testing.T) { // P13.1 to P13.3, P1
	for _, size := range sizes {
		m := inode.PerPage(size)
		for _, x := range []struct{ table, inodes, want int }{
			{2, 2 * m, 2 * m}, {2, 2*m - 1, 2*m - 1}, {2, 1, 1}, {3, m + 1, m + 1}, {2, 0, 0}, {2, -5, 0}, {2, math.MinInt, 0},
			// The table has no room for more.
			{2, 2*m + 1, 2 * m}, {2, 1 << 16, 2 * m}, {2, math.MaxInt, 2 * m},
		} {
			_, tree := laid(t, size, room.Layout{Table: x.table, First: x.table + 1, Pages: 20, Inodes: x.inodes})
			filled(t, tree, 0) // of these pages none is the table's
			none(t, tree, append([]int{x.want + 1, x.want + 2, x.want + m}, nowhere...))
			for n := 1; n <= x.want; n++ {
				is(t, "Set", tree.Set(n, some(n)), api.OK)
				if i := inodeOf(t, tree, n); i != some(n) {
					t.Errorf("Inode(%d): %v", n, i)
				}
			}
			none(t, tree, append([]int{x.want + 1, x.want + 2, x.want + m}, nowhere...))
			if tree.Used() != x.want {
				t.Errorf("Used: %d, not %d", tree.Used(), x.want)
			}
			if n, e := tree.Make(api.IFile); n != 0 || e != api.ErrSpace {
				t.Error("Make:", n, e)
			}
		}
	}
}

// none fails the test, if one of these is an inode's number.
func none(t *testing.T, x *Tree, l []int) {
	t.Helper()
	before := stateOf(x)
	for _, n := range l {
		if i, e := x.Inode(n); e != api.ErrArg || i != (api.Inode{}) {
			t.Errorf("Inode(%d): %v, %d", n, i, e)
		}
		is(t, "Set", x.Set(n, some(1)), api.ErrArg)
		is(t, "Set", x.Set(n, api.Inode{Kind: 9}), api.ErrArg)
		is(t, "Drop", x.Drop(n), api.ErrArg)
		if b, e := x.Bytes(n); e != api.ErrArg || len(b) != 0 {
			t.Errorf("Bytes(%d): %v, %d", n, b, e)
		}
		if m, e := x.Find(n, "a"); e != api.ErrArg || m != 0 {
			t.Errorf("Find(%d): %d, %d", n, m, e)
		}
		is(t, "Add", x.Add(n, "/", n), api.ErrArg)
		is(t, "Remove", x.Remove(n, "a"), api.ErrArg)
		is(t, "Turn", x.Turn(n, "a", n), api.ErrArg)
		for k, entry := range x.Entries(n) {
			t.Errorf("Entries(%d): %d, %v", n, k, entry)
		}
	}
	before.stays(t, x)
}

func TestBytesThatAreNoInodes(t *testing.T) { // P13.1, P13.2
	_, x := fresh(t, 128, 2, 20) // five inodes a page
	makes(t, x, api.IDir, 1)
	makes(t, x, api.IDir, 2)
	adds(t, x, 1, 2, "d")
	page, _ := x.Pool().Get(1)
	for _, spoilt := range [][]byte{{3}, {255}, {0, 1}, {1, 1}, {2, 0, 0xe9, 3}, {0, 0, 1}, {1, 0, 0, 0, 0, 0, 0, 128}} {
		b := bytes.Clone(page)
		clear(b[48:72])
		copy(b[48:], spoilt)
		is(t, "Put", x.Pool().Put(1, b), api.OK)
		before := stateOf(x)
		if i, e := x.Inode(3); e != api.ErrInode || i != (api.Inode{}) {
			t.Errorf("Inode of %v: %v, %d", spoilt, i, e)
		}
		is(t, "Drop", x.Drop(3), api.ErrInode)
		if l, e := x.Bytes(3); e != api.ErrInode || len(l) != 0 {
			t.Error("Bytes:", l, e)
		}
		if n, e := x.Find(3, "a"); e != api.ErrInode || n != 0 {
			t.Error("Find:", n, e)
		}
		is(t, "Add", x.Add(3, "a", 99), api.ErrInode)
		is(t, "Remove", x.Remove(3, "a"), api.ErrInode)
		is(t, "Turn", x.Turn(3, "a", 99), api.ErrInode)
		for range x.Entries(3) {
			t.Error("Entries")
		}
		is(t, "Set", x.Set(3, api.Inode{Kind: 3}), api.ErrInode)
		before.stays(t, x)
		// The others are as they were; it can be set.
		if n, e := x.Walk([]string{"d"}); n != 2 || e != api.OK {
			t.Error("Walk:", n, e)
		}
		if x.Used() != 3 {
			t.Error("Used:", x.Used())
		}
		makes(t, x, api.IFile, 4)
		is(t, "Set", x.Set(3, some(3)), api.OK)
		if i := inodeOf(t, x, 3); i != some(3) {
			t.Error("Inode:", i)
		}
	}
}

func TestSet(t *testing.T) { // P13.1, P13.5, P13.6
	for _, size := range sizes {
		_, x := fresh(t, size, 2, 20)
		all := 2 * inode.PerPage(size)
		want := make([]api.Inode, all+1)
		same := func() {
			t.Helper()
			used := 0
			for n := 1; n <= all; n++ {
				if i := inodeOf(t, x, n); i != want[n] {
					t.Errorf("Inode(%d): %v, not %v", n, i, want[n])
				}
				if want[n].Kind != api.IFree {
					used++
				}
			}
			if x.Used() != used {
				t.Errorf("Used: %d, not %d", x.Used(), used)
			}
		}
		for step := range 3 * all {
			n := 1 + step*5%all
			want[n] = some(step)
			if step%4 == 3 {
				want[n] = api.Inode{}
			}
			is(t, "Set", x.Set(n, want[n]), api.OK)
			same()
		}
		most := api.Inode{Kind: api.IDir, Links: 1000, Size: 1<<31 - 1, Direct: [6]int{8191, 8191, 8191, 8191, 8191, 8191}, Single: 8191, Double: 8191}
		want[2] = most
		is(t, "Set", x.Set(2, most), api.OK)
		same()
		refused(t, x, []api.Inode{
			{Links: 1}, {Size: 1}, {Direct: [6]int{5: 1}}, {Single: 1}, {Double: 1}, {Kind: 3}, {Kind: -1}, {Kind: 257}, {Kind: math.MaxInt},
			{Kind: 1, Links: 1001}, {Kind: 1, Links: -1}, {Kind: 1, Links: 1 << 16}, {Kind: 2, Size: 1 << 31}, {Kind: 2, Size: -1},
			{Kind: 1, Direct: [6]int{8192}}, {Kind: 1, Direct: [6]int{2: -1}}, {Kind: 2, Single: 8192}, {Kind: 2, Double: -1},
		})
		same()
	}
}

// refused fails the test, if one of these can be set.
func refused(t *testing.T, x *Tree, l []api.Inode) {
	t.Helper()
	before := stateOf(x)
	for _, i := range l {
		for n := 1; n <= 3; n++ {
			if e := x.Set(n, i); e != api.ErrInode {
				t.Errorf("Set of %v: %d", i, e)
			}
		}
	}
	before.stays(t, x)
}

func TestMake(t *testing.T) { // P13.1
	for _, size := range sizes {
		_, x := fresh(t, size, 3, 20)
		all := 3 * inode.PerPage(size)
		for n := 1; n <= all; n++ {
			kind := api.IFile + n%2
			makes(t, x, kind, n)
			if i := inodeOf(t, x, n); i != (api.Inode{Kind: kind}) {
				t.Errorf("Inode(%d): %v", n, i)
			}
			if x.Used() != n {
				t.Errorf("Used: %d, not %d", x.Used(), n)
			}
		}
		before := stateOf(x)
		for _, kind := range []int{api.IFree, 3, -1, 1 << 8, 257, 1<<32 + 1, math.MaxInt, math.MinInt} {
			if n, e := x.Make(kind); n != 0 || e != api.ErrArg {
				t.Errorf("Make(%d): %d, %d", kind, n, e)
			}
		}
		for _, kind := range []int{api.IFile, api.IDir} {
			if n, e := x.Make(kind); n != 0 || e != api.ErrSpace {
				t.Errorf("Make(%d) where none is free: %d, %d", kind, n, e)
			}
		}
		before.stays(t, x)
		// The lowest one of those that are free again; nothing of what it was stays.
		is(t, "Set", x.Set(3, api.Inode{Kind: api.IFile, Links: 7, Size: 99}), api.OK)
		for _, n := range []int{all, 3, 4} {
			is(t, "Drop", x.Drop(n), api.OK)
		}
		for _, n := range []int{3, 4, all} {
			makes(t, x, api.IDir, n)
			if i := inodeOf(t, x, n); i != (api.Inode{Kind: api.IDir}) {
				t.Errorf("Inode(%d): %v", n, i)
			}
		}
		if x.Used() != all {
			t.Error("Used:", x.Used())
		}
	}
}

func TestMakeOfWhatMayNotBe(t *testing.T) { // P13.1, P13.6
	_, x := fresh(t, 64, 2, 20)
	before := stateOf(x)
	for _, kind := range []int{api.IFree, 3, -1, 257, math.MaxInt, math.MinInt} {
		if n, e := x.Make(kind); n != 0 || e != api.ErrArg {
			t.Errorf("Make(%d): %d, %d", kind, n, e)
		}
	}
	before.stays(t, x)
	if x.Used() != 0 {
		t.Error("Used:", x.Used())
	}
}
