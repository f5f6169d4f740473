package scav

import (
	"bytes"
	"fmt"
	"maps"
	"math/rand"
	"slices"
	"testing"

	"cuneiform/api"
	"cuneiform/dirs"
	"cuneiform/inode"
	"cuneiform/nand"
	"cuneiform/node"
	"cuneiform/tag"
	"cuneiform/tree"
)

// What a craft holds is told here once more, as plainly as can be.

// named is the page that a number names, if it may.
func (w *craft) named(page int) ([]byte, bool) {
	b := w.pages[page]
	return b, page >= 3 && page < 39 && b != nil
}

// pointers are the pointers of a page, if it may be one of pointers.
func (w *craft) pointers(page int) ([]int, bool) {
	b, ok := w.named(page)
	if !ok {
		return nil, false
	}
	var l []int
	some := false
	for k := 0; k < w.size; k += 2 {
		to := int(b[k]) + 256*int(b[k+1])
		l = append(l, to)
		some = some || to > 0
		ok = ok && to < 8192
	}
	return l, ok && some
}

// lead is what the pointers of an inode lead to: the file's pages by their numbers, and all that is named.
type lead struct {
	file map[int]int
	all  []int
}

func (w *craft) leads(i api.Inode) (lead, bool) {
	l, k := lead{file: map[int]int{}}, w.size/2
	own := func(n, page int) {
		if page > 0 {
			l.file[n] = page
			l.all = append(l.all, page)
		}
	}
	for n, page := range i.Direct {
		own(n, page)
	}
	if i.Single > 0 {
		l.all = append(l.all, i.Single)
		to, ok := w.pointers(i.Single)
		if !ok {
			return l, false
		}
		for m, page := range to {
			own(6+m, page)
		}
	}
	if i.Double == 0 {
		return l, true
	}
	l.all = append(l.all, i.Double)
	first, ok := w.pointers(i.Double)
	for m, page := range first {
		if page == 0 {
			continue
		}
		l.all = append(l.all, page)
		second, right := w.pointers(page)
		ok = ok && right
		for n, page := range second {
			own(6+k+k*m+n, page)
		}
	}
	return l, ok
}

// isSound tells whether an inode is sound by itself, and what it leads to.
func (w *craft) isSound(i api.Inode) (lead, bool) {
	l, ok := w.leads(i)
	k := int64(w.size / 2)
	if !ok || i.Size > (6+k+k*k)*int64(w.size) {
		return l, false
	}
	for _, page := range l.all {
		if _, ok := w.named(page); !ok {
			return l, false
		}
	}
	for n, page := range l.file {
		for x, b := range w.pages[page] {
			if at := int64(n)*int64(w.size) + int64(x); at >= i.Size && (x == 0 || b != 0) {
				return l, false
			}
		}
	}
	return l, true
}

// entries are a directory's entries, if it is sound by itself.
func (w *craft) entries(i api.Inode, l lead) ([]api.Entry, bool) {
	var b []byte
	for n := 0; int64(len(b)) < i.Size; n++ {
		page, ok := l.file[n]
		if !ok {
			return nil, false
		}
		b = append(b, w.pages[page]...)
	}
	b = b[:i.Size]
	if dirs.Check(b) != api.OK {
		return nil, false
	}
	var all []api.Entry
	for _, e := range dirs.All(b) {
		all = append(all, e)
	}
	return all, true
}

// holds tells whether it holds a tree, and what Mount is to report.
func (w *craft) holds() (Report, bool) {
	m := inode.PerPage(w.size)
	text := append([]byte{67, 85, 78, 69, 1, 0, 2, 0, 36, 0, byte(2 * m), 0}, make([]byte, w.size-20)...)
	if !bytes.Equal(w.text, text) || len(w.pages) > 38 {
		return Report{}, false
	}
	inodes := make([]api.Inode, 1+2*m)
	for n := 1; n <= 2*m; n++ {
		page, from := w.at(n)
		if b := w.pages[page]; b != nil {
			i, e := inode.Read(b[from : from+24])
			if e != api.OK {
				return Report{}, false
			}
			inodes[n] = i
		}
	}
	names := map[int]int{}
	var all []int
	reached := []int{1}
	for k := 0; k < len(reached); k++ {
		i := inodes[reached[k]]
		l, ok := w.isSound(i)
		if !ok || i.Kind == api.IFree {
			return Report{}, false
		}
		all = append(all, l.all...)
		if i.Kind == api.IFile {
			continue
		}
		entries, ok := w.entries(i, l)
		if !ok {
			return Report{}, false
		}
		for _, e := range entries {
			if e.Inode > 2*m || e.Inode == 1 {
				return Report{}, false
			}
			names[e.Inode]++
			if names[e.Inode] == 1 {
				reached = append(reached, e.Inode)
			}
		}
	}
	r := Report{Pages: len(all)}
	slices.Sort(all)
	if len(slices.Compact(all)) != r.Pages || inodes[1].Kind != api.IDir || inodes[1].Links != 1 {
		return Report{}, false
	}
	r.Dirs = 1
	for n := 2; n <= 2*m; n++ {
		switch i := inodes[n]; {
		case i.Links != names[n], i.Kind == api.IDir && names[n] > 1:
			return Report{}, false
		case i.Kind == api.IFree:
		case names[n] == 0:
			r.Orphans++
		case i.Kind == api.IDir:
			r.Dirs++
		default:
			r.Files++
		}
	}
	if r.Orphans > 16 {
		return Report{}, false
	}
	return r, true
}

// grower makes a craft that holds a tree, by chance.
type grower struct {
	*craft
	r    *rand.Rand
	free []int // pages
	left []int // inodes
	made int   // names
}

func grow(r *rand.Rand, size int) *craft {
	g := &grower{craft: crafted(size), r: r}
	for _, page := range r.Perm(36) {
		g.free = append(g.free, 3+page)
	}
	for _, n := range r.Perm(g.lay.Inodes - 1) {
		g.left = append(g.left, 2+n)
	}
	of := []int{1}
	entries := map[int][]api.Entry{}
	for range r.Intn(min(7, len(g.left)+1)) {
		n, in := g.inode(), of[r.Intn(len(of))]
		entries[in] = append(entries[in], api.Entry{Inode: n, Name: g.name()})
		of = append(of, n)
	}
	var files []int
	for range r.Intn(min(9, len(g.left)+1)) {
		n := g.inode()
		files = append(files, n)
		g.set(n, api.Inode{Kind: api.IFile, Links: 1 + r.Intn(3)})
		for range g.get(n).Links {
			in := of[r.Intn(len(of))]
			entries[in] = append(entries[in], api.Entry{Inode: n, Name: g.name()})
		}
	}
	for _, n := range of {
		g.dir(n, entries[n])
	}
	for _, n := range files {
		g.file(n)
	}
	for range r.Intn(min(3, len(g.left)+1)) {
		g.set(g.inode(), api.Inode{Kind: api.IFile + r.Intn(2), Size: int64(r.Intn(999)), Direct: [6]int{r.Intn(50)}, Single: r.Intn(50)})
	}
	return g.craft
}

func (g *grower) inode() int {
	n := g.left[0]
	g.left = g.left[1:]
	return n
}

func (g *grower) page() int {
	page := g.free[0]
	g.free = g.free[1:]
	g.put(page)
	return page
}

func (g *grower) name() string {
	g.made++
	return fmt.Sprint("n", g.made)
}

// dir gives a directory entries, with empty slots among them.
func (g *grower) dir(n int, l []api.Entry) {
	var slots []api.Entry
	for _, e := range l {
		for g.r.Intn(4) == 0 {
			slots = append(slots, api.Entry{})
		}
		slots = append(slots, e)
	}
	b := slotsOf(slots...)
	i := api.Inode{Kind: api.IDir, Links: 1, Size: int64(len(b))}
	for n := 0; n*g.size < len(b); n++ {
		g.add(&i, n, b[n*g.size:min(len(b), (n+1)*g.size)])
	}
	g.set(n, i)
}

// file gives a file some pages, as long as there are enough.
func (g *grower) file(n int) {
	i := g.get(n)
	k := g.size / 2
	for range g.r.Intn(5) {
		at := []int{g.r.Intn(6), 6 + g.r.Intn(k), 6 + k + g.r.Intn(k*k), g.r.Intn(10)}[g.r.Intn(4)]
		if len(g.free) < 3 || g.has(i, at) {
			continue
		}
		b := make([]byte, 1+g.r.Intn(g.size))
		g.r.Read(b)
		g.add(&i, at, b)
		i.Size = max(i.Size, int64(at*g.size+len(b)))
	}
	if g.r.Intn(3) == 0 {
		i.Size = min(i.Size+int64(g.r.Intn(5*g.size)), inode.Most(g.size))
	}
	g.set(n, i)
}

// has tells whether a file has a page.
func (g *grower) has(i api.Inode, n int) bool {
	l, _ := g.leads(i)
	return l.file[n] > 0
}

// add gives a file a page.
func (g *grower) add(i *api.Inode, n int, b []byte) {
	at := g.page()
	copy(g.pages[at], b)
	w, _ := inode.To(g.size, n)
	switch w.Level {
	case 0:
		i.Direct[w.First] = at
	case 1:
		if i.Single == 0 {
			i.Single = g.page()
		}
		g.point(i.Single, w.First, at)
	case 2:
		if i.Double == 0 {
			i.Double = g.page()
		}
		next, _ := inode.Pointer(g.pages[i.Double], w.First)
		if next == 0 {
			next = g.page()
			g.point(i.Double, w.First, next)
		}
		g.point(next, w.Second, at)
	}
}

// harm changes something, which may be right, too.
func (w *craft) harm(r *rand.Rand) {
	n := 1 + r.Intn(w.lay.Inodes)
	number := func() int { return r.Intn(41) }
	change := func(how func(i *api.Inode)) {
		i := w.get(n)
		if how(&i); inode.Right(i) {
			w.set(n, i)
		}
	}
	there := slices.Sorted(maps.Keys(w.pages))
	page := there[r.Intn(len(there))]
	switch r.Intn(15) {
	case 0:
		change(func(i *api.Inode) { i.Links += r.Intn(3) - 1 })
	case 1:
		change(func(i *api.Inode) { i.Size += int64(r.Intn(2*w.size) - w.size) })
	case 2:
		change(func(i *api.Inode) { i.Size += 16 * int64(r.Intn(5)-2) })
	case 3:
		change(func(i *api.Inode) { i.Kind = 3 - i.Kind })
	case 4:
		change(func(i *api.Inode) { i.Direct[r.Intn(6)] = number() })
	case 5:
		change(func(i *api.Inode) { i.Single = number() })
	case 6:
		change(func(i *api.Inode) { i.Double = number() })
	case 7:
		if page > 2 {
			w.point(page, r.Intn(w.size/2), number())
		}
	case 8:
		if len(w.pages) > 1 {
			w.drop(page)
		}
	case 9:
		w.pages[page][r.Intn(w.size)] ^= 1 << r.Intn(8)
	case 10:
		if at := 3 + r.Intn(98); w.pages[at] == nil {
			w.full(at, r.Intn(w.size))
		}
	case 11:
		w.set(n, api.Inode{})
	case 12:
		if w.get(n).Kind == api.IFree {
			w.set(n, api.Inode{Kind: api.IFile + r.Intn(2), Direct: [6]int{number()}})
		}
	case 13:
		if page > 2 {
			w.slots(page, r.Intn(w.size/16), api.Entry{Inode: 1 + r.Intn(w.lay.Inodes+1), Name: fmt.Sprint("n", r.Intn(20))})
		}
	default:
		i, m := w.get(n), 1+r.Intn(w.lay.Inodes)
		w.set(n, w.get(m)).set(m, i)
	}
}

func TestWhateverIsHeld(t *testing.T) { // P14.2 to P14.4
	ended := map[string]int{}
	for seed := range int64(2500) {
		r := rand.New(rand.NewSource(seed))
		w := grow(r, sizes[seed%4])
		if _, ok := w.holds(); !ok {
			t.Fatal("seed", seed, "what was grown holds no tree")
		}
		harms := r.Intn(4)
		for range harms {
			w.harm(r)
		}
		want, ok := w.holds()
		x, got, e := mountsAs(t, w.chip(t))
		if ok != (e == api.OK) || e != api.OK && e != api.ErrCorrupt || got != want {
			t.Fatalf("seed %d: Mount: %v, %d, not %v, %v", seed, got, e, want, ok)
		}
		if ok {
			w.same(t, x)
		}
		ended[fmt.Sprint(harms > 0, ok)]++
		if t.Failed() {
			t.Fatal("seed", seed)
		}
	}
	for what, n := range map[string]int{"false true": 500, "true true": 200, "true false": 800} {
		if ended[what] < n {
			t.Error("what was played:", ended)
		}
	}
}

// same fails the test, if a tree holds something else than was crafted.
func (w *craft) same(t *testing.T, x *tree.Tree) {
	t.Helper()
	for n := 1; n <= w.lay.Inodes; n++ {
		i, want := inodeOf(t, x, n), w.get(n)
		if want.Links == 0 {
			want = api.Inode{}
		}
		if i != want {
			t.Errorf("the inode %d: %v, not %v", n, i, want)
		}
		l, _ := w.leads(i)
		for k, page := range l.file {
			off := int64(k) * int64(w.size)
			left := min(int64(w.size), i.Size-off)
			if b, e := node.Read(x.Pool(), i, off, w.size); e != api.OK || !bytes.Equal(b, w.pages[page][:left]) {
				t.Errorf("the inode %d at %d: %v, %d", n, off, b, e)
			}
		}
		if !slices.Equal(node.Pages(x.Pool(), i), slices.Sorted(maps.Keys(l.file))) {
			t.Errorf("the inode %d has the pages %v", n, node.Pages(x.Pool(), i))
		}
	}
}

// player plays with a tree that stays right, on a chip whose power goes.
type player struct {
	t     *testing.T
	r     *rand.Rand
	c     *nand.Chip
	x     *tree.Tree
	size  int
	fails int   // blocks that may fail yet
	made  int   // names
	held  []int // inodes that nothing names
	was   string
	had   int // how many were held then
	lost  map[string]int
}

// place is an entry of a directory.
type place struct {
	dir   int
	entry api.Entry
	kind  int
}

// places are all entries that there are, and dirs all directories.
func (p *player) places() (l []place, of []int) {
	of = []int{1}
	for k := 0; k < len(of); k++ {
		for _, e := range p.x.Entries(of[k]) {
			at := place{of[k], e, inodeOf(p.t, p.x, e.Inode).Kind}
			l = append(l, at)
			if at.kind == api.IDir {
				of = append(of, e.Inode)
			}
		}
	}
	return l, of
}

func (p *player) ok(what string, e api.Errno) {
	p.t.Helper()
	if e != api.OK {
		p.t.Fatal(what, e)
	}
}

// links gives an inode so many links more.
func (p *player) links(n, more int) int {
	p.t.Helper()
	i := inodeOf(p.t, p.x, n)
	i.Links += more
	p.ok("Set", p.x.Set(n, i))
	return i.Links
}

// add names an inode in a directory; if there is no space, it is not named.
func (p *player) add(dir, n int) bool {
	p.t.Helper()
	p.made++
	e := p.x.Add(dir, fmt.Sprint("n", p.made), n)
	if e == api.ErrSpace {
		return false
	}
	p.ok("Add", e)
	p.links(n, 1)
	return true
}

// leave takes a link of a file; one without is held, or goes.
func (p *player) leave(n int) {
	p.t.Helper()
	switch {
	case p.links(n, -1) > 0:
	case len(p.held) < 16 && p.r.Intn(3) > 0:
		p.held = append(p.held, n)
	default:
		p.ok("Drop", p.x.Drop(n))
	}
}

// rewrite writes into a file, or cuts it.
func (p *player) rewrite(n int) {
	p.t.Helper()
	i, e := inodeOf(p.t, p.x, n), api.OK
	off := p.r.Int63n(inode.Most(p.size) - 1100)
	if p.r.Intn(3) > 0 {
		off = p.r.Int63n(int64(9 * p.size))
	}
	if p.r.Intn(3) == 0 {
		i, e = node.Truncate(p.x.Pool(), i, off)
	} else {
		b := make([]byte, p.r.Intn(3*p.size))
		p.r.Read(b)
		if i, e = node.Write(p.x.Pool(), i, off, b[:min(len(b), api.MaxIO)]); e == api.ErrSpace {
			return
		}
	}
	p.ok("node", e)
	p.ok("Set", p.x.Set(n, i))
}

func (p *player) step() {
	p.t.Helper()
	l, of := p.places()
	dir := of[p.r.Intn(len(of))]
	if x := p.r.Intn(10); x < 3 || len(l) == 0 {
		kind := api.IFile + min(1, p.r.Intn(6)/4)
		n, e := p.x.Make(kind)
		if e == api.ErrSpace {
			return
		}
		p.ok("Make", e)
		if !p.add(dir, n) {
			p.ok("Drop", p.x.Drop(n))
		}
		return
	}
	at := l[p.r.Intn(len(l))]
	switch x := p.r.Intn(10); {
	case at.kind == api.IDir:
		if b, _ := p.x.Bytes(at.entry.Inode); len(b) == 0 && x < 4 {
			p.ok("Remove", p.x.Remove(at.dir, at.entry.Name))
			p.ok("Drop", p.x.Drop(at.entry.Inode))
		}
	case x < 6:
		p.rewrite(at.entry.Inode)
	case x < 7:
		p.add(dir, at.entry.Inode)
	case x < 9:
		p.ok("Remove", p.x.Remove(at.dir, at.entry.Name))
		p.leave(at.entry.Inode)
	case len(p.held) > 0:
		// One that was held is dropped, or named again.
		n := p.held[0]
		p.held = p.held[1:]
		if p.r.Intn(2) == 0 || !p.add(dir, n) {
			p.ok("Drop", p.x.Drop(n))
		}
	}
}

// commit commits, and goes on with what is mounted, if the power went.
func (p *player) commit() {
	p.t.Helper()
	toBe, had := told(p.t, p.x), len(p.held)
	if p.r.Intn(3) == 0 {
		kind := []int{api.Ahead, api.Within, api.Failed}[p.r.Intn(3)]
		if kind == api.Failed && p.fails == 0 {
			kind = api.Within
		}
		if kind == api.Failed {
			p.fails--
		}
		p.ok("Script", p.c.Script([]api.Fault{{At: p.r.Intn(12), Kind: kind, Data: make([]byte, p.r.Intn(20))}}))
	}
	e := p.x.Pool().Commit(Text(p.x.Pool().Layout(), p.size-8))
	p.lost[fmt.Sprint(e)]++
	switch e {
	case api.OK:
		p.was, p.had = toBe, had
		if p.r.Intn(4) > 0 {
			return
		}
	case api.ErrDown:
		p.c.Start()
		p.ok("Script", p.c.Script(nil))
	default:
		p.t.Fatal("Commit:", e)
	}
	x, r, e := mountsAs(p.t, p.c)
	p.ok("Mount", e)
	got := told(p.t, x)
	if (got != p.was || r.Orphans != p.had) && (got != toBe || r.Orphans != had) {
		p.t.Fatalf("mounted, with %d orphans:\n%s\nnot, with %d:\n%s\nand not, with %d:\n%s", r.Orphans, got, p.had, p.was, had, toBe)
	}
	p.lost["orphans"] += r.Orphans
	// Once more it is the same: the orphans are freed with the next commit.
	if y := mounts(p.t, p.c, r); told(p.t, y) != got {
		p.t.Fatal("mounted again it is another one")
	}
	p.x, p.held, p.was, p.had = x, nil, got, r.Orphans
}

func TestPlay(t *testing.T) { // P14.2 to P14.5
	lost := map[string]int{}
	for seed := range int64(60) {
		r := rand.New(rand.NewSource(seed))
		g := geos[r.Intn(len(geos)-3)]
		p := &player{t: t, r: r, c: newChip(t, g.blocks, g.pages, g.size, g.bad...), size: g.size, fails: g.reserve, lost: lost}
		p.x = formats(t, p.c, g.reserve)
		p.was = told(t, p.x)
		for step := range 120 {
			p.step()
			if p.x.Pool().Dirty() >= 16 || r.Intn(12) == 0 {
				p.commit()
			}
			if t.Failed() {
				t.Fatal("seed", seed, "step", step)
			}
		}
	}
	for what, n := range map[string]int{"0": 100, "4": 100, "orphans": 100} {
		if lost[what] < n {
			t.Error("what was played:", lost)
		}
	}
}

// damaged is a chip with some pages of another one gone, torn, or put where others were.
func damaged(t *testing.T, r *rand.Rand, c *nand.Chip) *nand.Chip {
	t.Helper()
	pages, bad, wear := c.Dump()
	var there []int
	for k, b := range pages {
		if b != nil {
			there = append(there, k)
		}
	}
	for range r.Intn(4) {
		k := there[r.Intn(len(there))]
		switch r.Intn(5) {
		case 0:
			pages[k] = nil
		case 1:
			if pages[k] != nil {
				pages[k][r.Intn(len(pages[k]))] ^= 1 << r.Intn(8)
			}
		case 2:
			pages[k] = pages[there[r.Intn(len(there))]]
		case 3:
			bad[r.Intn(len(bad))] = true
		default:
			// As if its block had been erased.
			first := k - k%c.Geo().Pages
			clear(pages[first : first+c.Geo().Pages])
		}
	}
	d, e := nand.Load(c.Geo(), pages, bad, wear)
	if e != api.OK {
		t.Fatal("Load:", e)
	}
	return d
}

func TestWhateverAChipHolds(t *testing.T) { // P14.3, P14.4, P1
	mounted, refused := 0, 0
	for seed := range int64(40) {
		r := rand.New(rand.NewSource(seed))
		g := geos[r.Intn(len(geos)-3)]
		p := &player{t: t, r: r, c: newChip(t, g.blocks, g.pages, g.size, g.bad...), size: g.size, lost: map[string]int{}}
		p.x = formats(t, p.c, g.reserve)
		p.was = told(t, p.x)
		for range 60 {
			p.step()
			if p.x.Pool().Dirty() >= 16 || r.Intn(8) == 0 {
				p.commit()
			}
		}
		for try := range 25 {
			c := damaged(t, r, p.c)
			x, was, e := mountsAs(t, c)
			if e != api.OK && e != api.ErrCorrupt {
				t.Fatalf("seed %d, try %d: Mount: %d", seed, try, e)
			}
			if e != api.OK {
				refused++
				continue
			}
			mounted++
			if y := mounts(t, c, was); told(t, y) != told(t, x) {
				t.Fatalf("seed %d, try %d: mounted again it is another one", seed, try)
			}
		}
		if t.Failed() {
			t.Fatal("seed", seed)
		}
	}
	if mounted < 100 || refused < 100 {
		t.Error("mounted, refused:", mounted, refused)
	}
}

func TestAChipOfAnything(t *testing.T) { // P14.3, P1
	for seed := range int64(300) {
		r := rand.New(rand.NewSource(seed))
		w := grow(r, 64)
		pages := make([][]byte, 128)
		for k := range pages {
			b := w.pages[r.Intn(39)]
			if b == nil {
				continue
			}
			if r.Intn(3) == 0 {
				b = bytes.Clone(b)
				b[r.Intn(64)] = byte(r.Intn(40))
			}
			g := api.Tag{Kind: api.KPage, Page: uint32(r.Intn(40)), Seq: uint64(1 + r.Intn(200)), Epoch: uint64(1 + r.Intn(3))}
			pages[k], _ = tag.Write(g, b)
		}
		seal := append([]byte{2, 0, 0, 0, 0, 0, 0, 0}, w.text...)
		pages[r.Intn(128)], _ = tag.Write(api.Tag{Kind: api.KSeal, Seq: 201, Epoch: uint64(1 + r.Intn(3))}, seal)
		c, e := nand.Load(api.Geo{Blocks: 16, Pages: 8, Size: 64}, pages, make([]bool, 16), make([]int, 16))
		if e != api.OK {
			t.Fatal("Load:", e)
		}
		if _, _, e := mountsAs(t, c); e != api.OK && e != api.ErrCorrupt {
			t.Error("seed", seed, "Mount:", e)
		}
	}
}
