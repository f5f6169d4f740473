package tree

import (
	"bytes"
	"math"
	"math/rand"
	"slices"
	"testing"

	"cuneiform/api"
	"cuneiform/inode"
	"cuneiform/nand"
	"cuneiform/node"
	"cuneiform/room"
)

// plain is an inode, as plainly as can be.
type plain struct {
	kind, links int
	file        []byte      // of a file
	slots       []api.Entry // of a directory; an entry of no name is an empty slot
}

// bytes are what an inode holds.
func (i plain) bytes() []byte {
	if i.kind == api.IDir {
		return slots(i.slots...)
	}
	return i.file
}

// slot is the number of the slot of a name, or -1.
func (i plain) slot(name string) int {
	return slices.IndexFunc(i.slots, func(e api.Entry) bool { return name != "" && e.Name == name })
}

// room is the number of the first empty slot; if there is none, how many there are.
func (i plain) room() int {
	for k, e := range i.slots {
		if e.Name == "" {
			return k
		}
	}
	return len(i.slots)
}

func (i plain) copied() plain {
	i.file, i.slots = slices.Clone(i.file), slices.Clone(i.slots)
	return i
}

// player plays with a tree, and knows what it has to hold.
type player struct {
	t     *testing.T
	r     *rand.Rand
	c     *nand.Chip
	x     *Tree
	size  int
	pages int     // how many the pool has
	all   []plain // from 1 on; of the number 0 there is none
	was   []plain // as they were committed
	used  []int   // the pages that were used then
	ends  map[string]map[api.Errno]int
}

func begin(t *testing.T, r *rand.Rand) *player {
	t.Helper()
	p := &player{t: t, r: r, size: sizes[r.Intn(4)], pages: 4 + r.Intn(40), ends: map[string]map[api.Errno]int{}}
	table := 1 + r.Intn(4)
	p.c, p.x = fresh(t, p.size, table, p.pages)
	p.all = make([]plain, 1+table*inode.PerPage(p.size))
	if r.Intn(9) > 0 {
		p.make()
		p.commit()
	}
	p.was = make([]plain, len(p.all))
	p.keep()
	return p
}

// ended counts an answer, and fails the test, if it is another one than asked for.
func (p *player) ended(what string, got, want api.Errno) bool {
	p.t.Helper()
	if p.ends[what] == nil {
		p.ends[what] = map[api.Errno]int{}
	}
	p.ends[what][got]++
	if got != want {
		p.t.Fatalf("%s: %d, not %d", what, got, want)
	}
	return got == api.OK
}

// there is the error of asking for an inode.
func (p *player) there(n int) api.Errno {
	if n < 1 || n >= len(p.all) {
		return api.ErrArg
	}
	return api.OK
}

// dir is the error of asking for a directory.
func (p *player) dir(n int) api.Errno {
	if e := p.there(n); e != api.OK {
		return e
	}
	if p.all[n].kind != api.IDir {
		return api.ErrNotDir
	}
	return api.OK
}

// find is the inode of a name, or the error.
func (p *player) find(dir int, name string) (int, api.Errno) {
	if e := p.dir(dir); e != api.OK {
		return 0, e
	}
	k := p.all[dir].slot(name)
	if k < 0 {
		return 0, api.ErrNoEntry
	}
	return p.all[dir].slots[k].Inode, api.OK
}

// takes is how many pages an inode takes that has so many bytes. (No file of the play has a hole.)
func (p *player) takes(n int) int {
	pages := 0
	for pages*p.size < n {
		pages++
	}
	k := p.size / 2
	switch {
	case pages <= 6:
		return pages
	case pages <= 6+k:
		return pages + 1
	}
	return pages + 2 + (pages-6-k+k-1)/k
}

// free is how many pages have to be free.
func (p *player) free() int {
	n := p.pages
	for _, i := range p.all {
		n -= p.takes(len(i.bytes()))
	}
	return n
}

// number is some number, most often an inode's.
func (p *player) number() int {
	switch p.r.Intn(30) {
	case 0:
		return nowhere[p.r.Intn(len(nowhere))]
	case 1:
		return len(p.all) + p.r.Intn(3)
	}
	return 1 + p.r.Intn(len(p.all)-1)
}

// some is some directory's number most often, and some number else.
func (p *player) some() int {
	for range 20 {
		if n := p.number(); p.dir(n) == api.OK {
			return n
		}
	}
	return p.number()
}

// name is some name, or some text that is none.
func (p *player) name() string {
	if p.r.Intn(20) == 0 {
		return noNames[p.r.Intn(len(noNames))]
	}
	return name(p.r.Intn(60))
}

func (p *player) make() {
	p.t.Helper()
	kind := api.IFile + p.r.Intn(2)
	if p.r.Intn(20) == 0 {
		kind = p.r.Intn(7) - 3
	}
	want, wants := 0, api.ErrSpace
	if kind != api.IFile && kind != api.IDir {
		wants = api.ErrArg
	} else if k := slices.IndexFunc(p.all[1:], func(i plain) bool { return i.kind == api.IFree }); k >= 0 {
		want, wants = k+1, api.OK
	}
	n, e := p.x.Make(kind)
	if p.ended("Make", e, wants) {
		p.all[want] = plain{kind: kind}
	}
	if n != want {
		p.t.Fatalf("Make: %d, not %d", n, want)
	}
}

func (p *player) drop() {
	p.t.Helper()
	n := p.number()
	if p.ended("Drop", p.x.Drop(n), p.there(n)) {
		p.all[n] = plain{}
	}
}

// set gives an inode that is not free other links, and a file other bytes at its end.
func (p *player) set() {
	p.t.Helper()
	n := p.number()
	if p.there(n) != api.OK || p.all[n].kind == api.IFree {
		return
	}
	i, e := p.x.Inode(n)
	p.ended("Inode", e, api.OK)
	next := p.all[n].copied()
	switch {
	case p.r.Intn(2) == 0 || next.kind == api.IDir:
		next.links = p.r.Intn(1001)
	case p.r.Intn(2) == 0:
		next.file = next.file[:p.r.Intn(len(next.file)+1)]
		i, e = node.Truncate(p.x.Pool(), i, int64(len(next.file)))
		p.ended("Truncate", e, api.OK)
	default:
		more := make([]byte, p.r.Intn(3*p.size))
		p.r.Read(more)
		i, e = node.Write(p.x.Pool(), i, int64(len(next.file)), more[:min(len(more), api.MaxIO)])
		if e == api.ErrSpace {
			return
		}
		p.ended("Write", e, api.OK)
		next.file = append(next.file, more[:min(len(more), api.MaxIO)]...)
	}
	i.Links = next.links
	if p.ended("Set", p.x.Set(n, i), api.OK) {
		p.all[n] = next
	}
}

func (p *player) add() {
	p.t.Helper()
	dir, name, n := p.some(), p.name(), p.number()
	want := p.dir(dir)
	var slot, more int
	if want == api.OK {
		slot = p.all[dir].room()
		end := 16 * max(slot+1, len(p.all[dir].slots))
		more = p.takes(end) - p.takes(16*len(p.all[dir].slots))
	}
	switch {
	case want != api.OK:
	case p.there(n) != api.OK:
		want = api.ErrArg
	case slices.Contains(noNames, name):
		want = api.ErrName
	case p.all[dir].slot(name) >= 0:
		want = api.ErrExist
	case more > p.free():
		want = api.ErrSpace
	}
	if p.ended("Add", p.x.Add(dir, name, n), want) {
		i := &p.all[dir]
		if slot == len(i.slots) {
			i.slots = append(i.slots, api.Entry{})
		}
		i.slots[slot] = api.Entry{Inode: n, Name: name}
	}
}

func (p *player) remove() {
	p.t.Helper()
	dir, name := p.some(), p.name()
	_, want := p.find(dir, name)
	if p.ended("Remove", p.x.Remove(dir, name), want) {
		i := &p.all[dir]
		i.slots[i.slot(name)] = api.Entry{}
		for len(i.slots) > 0 && i.slots[len(i.slots)-1].Name == "" {
			i.slots = i.slots[:len(i.slots)-1]
		}
	}
}

func (p *player) turn() {
	p.t.Helper()
	dir, name, n := p.some(), p.name(), p.number()
	_, want := p.find(dir, name)
	if want == api.OK {
		want = p.there(n)
	}
	if p.ended("Turn", p.x.Turn(dir, name, n), want) {
		i := &p.all[dir]
		i.slots[i.slot(name)].Inode = n
	}
}

func (p *player) look() {
	p.t.Helper()
	dir, name := p.some(), p.name()
	want, wants := p.find(dir, name)
	n, e := p.x.Find(dir, name)
	p.ended("Find", e, wants)
	if n != want {
		p.t.Fatalf("Find: %d, not %d", n, want)
	}
	// A walk goes down by names that there are, as far as it can, and at last by another one.
	at, wants := 1, api.OK
	var names []string
	for wants == api.OK && p.r.Intn(12) > 0 {
		name := p.name()
		if p.dir(at) == api.OK && len(p.all[at].slots) > 0 && p.r.Intn(6) > 0 {
			name = p.all[at].slots[p.r.Intn(len(p.all[at].slots))].Name
		}
		names = append(names, name)
		at, wants = p.find(at, name)
	}
	if wants != api.OK && p.r.Intn(2) == 0 {
		names = append(names, p.name())
	}
	n, e = p.x.Walk(names)
	p.ended("Walk", e, wants)
	if n != at {
		p.t.Fatalf("Walk of %q: %d, not %d", names, n, at)
	}
}

// keep keeps what there is as committed.
func (p *player) keep() {
	for n, i := range p.all {
		p.was[n] = i.copied()
	}
	p.used = slices.Collect(p.x.Pool().Used())
}

func (p *player) commit() {
	p.t.Helper()
	if p.ended("Commit", p.x.Pool().Commit(make([]byte, p.size-8)), api.OK) && p.was != nil {
		p.keep()
	}
}

// lose takes the power, and goes on with what was committed.
func (p *player) lose() {
	p.t.Helper()
	lay := p.x.Pool().Layout()
	p.c.Lose()
	p.c.Start()
	p.x = again(p.t, p.c, lay, p.used)
	for n, i := range p.was {
		p.all[n] = i.copied()
	}
}

// same fails the test, if the tree holds something else.
func (p *player) same() {
	p.t.Helper()
	used := 0
	for n := 1; n < len(p.all); n++ {
		want := p.all[n]
		i := inodeOf(p.t, p.x, n)
		if i.Kind != want.kind || i.Links != want.links || i.Size != int64(len(want.bytes())) {
			p.t.Fatalf("Inode(%d): %v, not %v", n, i, want)
		}
		if n := takesOf(p.x, i); n != p.takes(len(want.bytes())) {
			p.t.Fatalf("%d bytes take %d, not %d", len(want.bytes()), n, p.takes(len(want.bytes())))
		}
		switch want.kind {
		case api.IFree:
			continue
		case api.IDir:
			holds(p.t, p.x, n, want.slots...)
			if takes, e := room.Dir(p.size, len(want.slots)); e != api.OK || takes != p.takes(16*len(want.slots)) {
				p.t.Fatal("room says", takes, e)
			}
		case api.IFile:
			p.sameFile(i, want)
		}
		used++
	}
	if p.x.Used() != used || p.x.Pool().Room() != p.free() {
		p.t.Fatalf("Used: %d, not %d; Room: %d, not %d", p.x.Used(), used, p.x.Pool().Room(), p.free())
	}
}

func (p *player) sameFile(i api.Inode, want plain) {
	p.t.Helper()
	for off := 0; off < len(want.file); off += api.MaxIO {
		b, e := node.Read(p.x.Pool(), i, int64(off), api.MaxIO)
		if e != api.OK || !bytes.Equal(b, want.file[off:min(len(want.file), off+api.MaxIO)]) {
			p.t.Fatalf("a file is another one at %d: %d", off, e)
		}
	}
}

func (p *player) step() {
	p.t.Helper()
	switch x := p.r.Intn(60); {
	case x < 6:
		p.make()
	case x < 8:
		p.drop()
	case x < 15:
		p.set()
	case x < 35:
		p.add()
	case x < 43:
		p.remove()
	case x < 48:
		p.turn()
	case x < 57:
		p.look()
	case x < 59:
		p.commit()
	default:
		p.lose()
	}
}

func TestPlay(t *testing.T) { // P13.1 to P13.7
	ends := map[string]map[api.Errno]int{}
	for seed := range int64(120) {
		p := begin(t, rand.New(rand.NewSource(seed)))
		for step := range 250 {
			p.step()
			if step%10 == 0 {
				p.same()
			}
			if t.Failed() {
				t.Fatal("seed", seed, "step", step)
			}
		}
		p.same()
		for n := 1; n < len(p.all); n++ {
			is(t, "Drop", p.x.Drop(n), api.OK)
		}
		if p.x.Pool().Room() != p.pages || p.x.Used() != 0 {
			t.Fatal("behind all:", p.x.Pool().Room(), p.x.Used())
		}
		for what, l := range p.ends {
			if ends[what] == nil {
				ends[what] = map[api.Errno]int{}
			}
			for e, n := range l {
				ends[what][e] += n
			}
		}
	}
	for what, l := range map[string][]api.Errno{
		"Make":   {api.OK, api.ErrArg, api.ErrSpace},
		"Drop":   {api.OK, api.ErrArg},
		"Set":    {api.OK},
		"Find":   {api.OK, api.ErrArg, api.ErrNotDir, api.ErrNoEntry},
		"Walk":   {api.OK, api.ErrNotDir, api.ErrNoEntry},
		"Add":    {api.OK, api.ErrArg, api.ErrNotDir, api.ErrName, api.ErrExist, api.ErrSpace},
		"Remove": {api.OK, api.ErrArg, api.ErrNotDir, api.ErrNoEntry},
		"Turn":   {api.OK, api.ErrArg, api.ErrNotDir, api.ErrNoEntry},
	} {
		for _, e := range l {
			if ends[what][e] < 5 {
				t.Errorf("of %s %d ended with %d", what, ends[what][e], e)
			}
		}
	}
}

// spoilt is some inode that is right, and names pages of a pool most often, be they its own or not.
func spoilt(r *rand.Rand, pages int) api.Inode {
	number := func() int {
		if r.Intn(20) == 0 {
			return r.Intn(1 << 13)
		}
		return r.Intn(pages + 5)
	}
	i := api.Inode{Kind: api.IFile + r.Intn(2), Links: r.Intn(1001), Size: r.Int63n(1 << uint(1+r.Intn(22)))}
	if r.Intn(50) == 0 {
		i.Size = 1<<31 - 1
	}
	for k := range i.Direct {
		i.Direct[k] = number()
	}
	if r.Intn(2) == 0 {
		i.Single, i.Double = number(), number()
	}
	return i
}

func TestTreesThatAreNotKept(t *testing.T) { // P13.1, P1
	for seed := range int64(150) {
		r := rand.New(rand.NewSource(seed))
		size := sizes[r.Intn(2)]
		_, x := fresh(t, size, 3, 30)
		all := 3 * inode.PerPage(size)
		last := make([]api.Inode, all+1)
		for range 20 {
			page, _ := x.Pool().Alloc()
			b := slots(api.Entry{Inode: r.Intn(all + 2), Name: name(r.Intn(5))}, api.Entry{Inode: r.Intn(all + 2), Name: name(r.Intn(5))})
			b = append(b, make([]byte, size-len(b))...)
			for k := r.Intn(4) * size / 4; k < size; k += 2 {
				b[k] = byte(r.Intn(40))
			}
			is(t, "Put", x.Pool().Put(page, b), api.OK)
		}
		for range 60 {
			n := 1 + r.Intn(all)
			if r.Intn(3) == 0 {
				last[n] = spoilt(r, 30)
				is(t, "Set", x.Set(n, last[n]), api.OK)
			}
			for m := 1; m <= all; m++ {
				if i, e := x.Inode(m); i != last[m] || e != api.OK {
					t.Fatalf("seed %d: Inode(%d): %v, %d, not %v", seed, m, i, e, last[m])
				}
			}
			m, e := spoil(r, x, n)
			if m > 0 && e == api.OK {
				// It is set by that call; of the others each stays what it was set to.
				last[m] = inodeOf(t, x, m)
			}
		}
	}
}

// spoil makes some call, and tells which inode may be another one then.
func spoil(r *rand.Rand, x *Tree, n int) (int, api.Errno) {
	text, to := name(r.Intn(5)), []int{1, 2, n, 0, math.MaxInt}[r.Intn(5)]
	switch r.Intn(9) {
	case 0:
		return x.Make(api.IFile + r.Intn(2))
	case 1:
		return n, x.Drop(n)
	case 2:
		return n, x.Add(n, text, to)
	case 3:
		return n, x.Remove(n, text)
	case 4:
		return n, x.Turn(n, text, to)
	case 5:
		x.Bytes(n)
	case 6:
		x.Find(n, text)
	case 7:
		x.Walk([]string{text, text, name(r.Intn(5))})
	default:
		x.Used()
		for range x.Entries(n) {
		}
	}
	return 0, api.OK
}
