package fs

import (
	"fmt"
	"maps"
	"slices"
	"strings"

	"cuneiform/api"
)

// What a file system answers is told here once more, as plainly as can be: in memory that does not wear.

// plainInode is an inode. (What stands in a page is never changed in place: so copies may share it.)
type plainInode struct {
	kind, links int
	size        int64
	pages       map[int]string // a file's pages that are there
	slots       []api.Entry    // a directory's; an entry of no name is an empty slot
}

// plainHandle is a handle; one of no inode is not open.
type plainHandle struct {
	inode, flags int
	place        int64
}

// plain is a file system.
type plain struct {
	size    int // of a page
	pages   int // how many there are for files and directories
	inodes  []plainInode
	handles [16]plainHandle
}

// bare is one with just the root.
func bare(size, pages, inodes int) *plain {
	m := &plain{size: size, pages: pages, inodes: make([]plainInode, inodes+1)}
	m.inodes[1] = plainInode{kind: api.IDir, links: 1}
	return m
}

func (m *plain) copied() *plain {
	c := *m
	c.inodes = slices.Clone(m.inodes)
	for n, i := range c.inodes {
		c.inodes[n].pages, c.inodes[n].slots = maps.Clone(i.pages), slices.Clone(i.slots)
	}
	return &c
}

// mounted is what is found of it at a mount: no handle is open, and what nothing names is gone.
func (m *plain) mounted() *plain {
	c := m.copied()
	c.handles = [16]plainHandle{}
	for n, i := range c.inodes {
		if i.links == 0 {
			c.inodes[n] = plainInode{}
		}
	}
	return c
}

// takes is how many pages an inode takes.
func (m *plain) takes(i plainInode) int {
	var l []int
	for n := range i.pages {
		l = append(l, n)
	}
	for n := 0; n*m.size < 16*len(i.slots); n++ {
		l = append(l, n)
	}
	k, single, firsts := m.size/2, 0, map[int]bool{}
	for _, n := range l {
		switch {
		case n >= 6+k:
			firsts[(n-6-k)/k] = true
		case n >= 6:
			single = 1
		}
	}
	all := len(l) + single + len(firsts)
	if len(firsts) > 0 {
		all++
	}
	return all
}

// free is how many pages are free.
func (m *plain) free() int {
	n := m.pages
	for _, i := range m.inodes {
		n -= m.takes(i)
	}
	return n
}

func (m *plain) used() int {
	n := 0
	for _, i := range m.inodes {
		if i.kind != api.IFree {
			n++
		}
	}
	return n
}

func (m *plain) greatest() int64 {
	k := int64(m.size / 2)
	return min((6+k+k*k)*int64(m.size), 1<<31-1)
}

// names are a path's.
func names(p string) ([]string, api.Errno) {
	if len(p) == 0 || len(p) > 255 || p[0] != '/' {
		return nil, api.ErrPath
	}
	var l []string
	for part := range strings.SplitSeq(p, "/") {
		switch {
		case part == "":
			continue
		case part == ".", part == "..", len(part) > 13, strings.ContainsRune(part, 0):
			return nil, api.ErrName
		case len(l) == 16:
			return nil, api.ErrPath
		}
		l = append(l, part)
	}
	return l, api.OK
}

// split is all of a path's names but the last one, and that.
func split(p string) ([]string, string, api.Errno) {
	l, e := names(p)
	if e == api.OK && len(l) == 0 {
		e = api.ErrRoot
	}
	if e != api.OK {
		return nil, "", e
	}
	return l[:len(l)-1], l[len(l)-1], api.OK
}

// slot is the number of the slot of a name, or -1.
func (i plainInode) slot(name string) int {
	return slices.IndexFunc(i.slots, func(e api.Entry) bool { return e.Name == name && name != "" })
}

func (m *plain) find(dir int, name string) (int, api.Errno) {
	i := m.inodes[dir]
	if i.kind != api.IDir {
		return 0, api.ErrNotDir
	}
	k := i.slot(name)
	if k < 0 {
		return 0, api.ErrNoEntry
	}
	return i.slots[k].Inode, api.OK
}

func (m *plain) walk(l []string) (int, api.Errno) {
	at := 1
	for _, name := range l {
		n, e := m.find(at, name)
		if e != api.OK {
			return 0, e
		}
		at = n
	}
	return at, api.OK
}

func (m *plain) resolve(p string) (int, api.Errno) {
	l, e := names(p)
	if e != api.OK {
		return 0, e
	}
	return m.walk(l)
}

// parent is the directory of a path's last name, that name, and what it names; which may be nothing.
func (m *plain) parent(p string) (dir int, last string, n int, e api.Errno) {
	ahead, last, e := split(p)
	if e == api.OK {
		dir, e = m.walk(ahead)
	}
	if e == api.OK {
		n, e = m.find(dir, last)
	}
	if e == api.ErrNoEntry && dir > 0 {
		e = api.OK
	}
	return dir, last, n, e
}

// add adds an entry, if there is space.
func (m *plain) add(dir int, name string, n int) api.Errno {
	i := m.inodes[dir]
	l := slices.Clone(i.slots)
	k := slices.IndexFunc(l, func(e api.Entry) bool { return e.Name == "" })
	if k < 0 {
		k = len(l)
		l = append(l, api.Entry{})
	}
	l[k] = api.Entry{Inode: n, Name: name}
	if m.takes(plainInode{slots: l})-m.takes(i) > m.free() {
		return api.ErrSpace
	}
	m.inodes[dir].slots = l
	return api.OK
}

func (m *plain) remove(dir int, name string) {
	l := m.inodes[dir].slots
	l[m.inodes[dir].slot(name)] = api.Entry{}
	for len(l) > 0 && l[len(l)-1].Name == "" {
		l = l[:len(l)-1]
	}
	m.inodes[dir].slots = l
}

func (m *plain) empty(n int) bool {
	return len(m.inodes[n].slots) == 0
}

// make makes an inode with a name, if there are an inode and space.
func (m *plain) make(dir int, name string, kind int) (int, api.Errno) {
	n := 1 + slices.IndexFunc(m.inodes[1:], func(i plainInode) bool { return i.kind == api.IFree })
	if n == 0 {
		return 0, api.ErrSpace
	}
	if e := m.add(dir, name, n); e != api.OK {
		return 0, e
	}
	m.inodes[n] = plainInode{kind: kind, links: 1}
	if kind == api.IFile {
		m.inodes[n].pages = map[int]string{}
	}
	return n, api.OK
}

// sweep lets an inode go that nothing names, and no handle is open on.
func (m *plain) sweep(n int) {
	held := slices.ContainsFunc(m.handles[:], func(h plainHandle) bool { return h.inode == n })
	if m.inodes[n].links == 0 && !held {
		m.inodes[n] = plainInode{}
	}
}

func rightFlags(flags int) bool {
	on := func(x int) bool { return flags>>x&1 == 1 }
	if flags < 0 || flags >= 64 || !on(0) && !on(1) {
		return false
	}
	return !(on(3) && !on(2)) && !(on(4) && !on(1)) && !(on(5) && !on(1))
}

func (m *plain) open(p string, flags int) (int, api.Errno) {
	if !rightFlags(flags) {
		return 0, api.ErrArg
	}
	dir, name, n, e := m.parent(p)
	h := slices.IndexFunc(m.handles[:], func(h plainHandle) bool { return h.inode == 0 })
	switch {
	case e != api.OK:
	case n > 0 && flags&8 > 0:
		e = api.ErrExist
	case n > 0 && m.inodes[n].kind == api.IDir:
		e = api.ErrIsDir
	case n == 0 && flags&4 == 0:
		e = api.ErrNoEntry
	case h < 0:
		e = api.ErrHandles
	case n == 0:
		n, e = m.make(dir, name, api.IFile)
	}
	if e != api.OK {
		return 0, e
	}
	if flags&16 > 0 {
		m.cut(n, 0)
	}
	m.handles[h] = plainHandle{inode: n, flags: flags}
	return h, api.OK
}

func (m *plain) close(h int) api.Errno {
	if h < 0 || h > 15 || m.handles[h].inode == 0 {
		return api.ErrHandle
	}
	n := m.handles[h].inode
	m.handles[h] = plainHandle{}
	m.sweep(n)
	return api.OK
}

// handle is the error of using a handle so.
func (m *plain) handle(h, flag int) api.Errno {
	switch {
	case h < 0 || h > 15 || m.handles[h].inode == 0:
		return api.ErrHandle
	case flag > 0 && m.handles[h].flags&flag == 0:
		return api.ErrAccess
	}
	return api.OK
}

// content is what stands in a file from off on, n bytes at most.
func (m *plain) content(n int, off, most int64) []byte {
	i := m.inodes[n]
	if off >= i.size {
		return nil
	}
	b := make([]byte, min(most, i.size-off))
	for k := range b {
		at := off + int64(k)
		if page, ok := i.pages[int(at/int64(m.size))]; ok {
			b[k] = page[at%int64(m.size)]
		}
	}
	return b
}

func (m *plain) read(h, n int) ([]byte, api.Errno) {
	if e := m.handle(h, 1); e != api.OK {
		return nil, e
	}
	if n < 0 || n > 1024 {
		return nil, api.ErrArg
	}
	b := m.content(m.handles[h].inode, m.handles[h].place, int64(n))
	m.handles[h].place += int64(len(b))
	return b, api.OK
}

func (m *plain) write(h int, b []byte) (int, api.Errno) {
	if e := m.handle(h, 2); e != api.OK {
		return 0, e
	}
	n, place := m.handles[h].inode, m.handles[h].place
	i := m.inodes[n]
	if m.handles[h].flags&32 > 0 {
		place = i.size
	}
	switch {
	case len(b) > 1024:
		return 0, api.ErrArg
	case place+int64(len(b)) > m.greatest():
		return 0, api.ErrBig
	}
	now := plainInode{kind: i.kind, links: i.links, size: i.size, pages: maps.Clone(i.pages)}
	for k, x := range b {
		at := place + int64(k)
		page, in := int(at/int64(m.size)), at%int64(m.size)
		if now.pages[page] == "" {
			now.pages[page] = string(make([]byte, m.size))
		}
		s := []byte(now.pages[page])
		s[in] = x
		now.pages[page] = string(s)
		now.size = max(now.size, at+1)
	}
	if m.takes(now)-m.takes(i) > m.free() {
		return 0, api.ErrSpace
	}
	m.inodes[n] = now
	m.handles[h].place = place + int64(len(b))
	return len(b), api.OK
}

func (m *plain) seek(h int, off int64, from int) (int64, api.Errno) {
	if e := m.handle(h, 0); e != api.OK {
		return 0, e
	}
	if from < 0 || from > 2 {
		return 0, api.ErrArg
	}
	base := []int64{0, m.handles[h].place, m.inodes[m.handles[h].inode].size}[from]
	if off > 1<<41 || off < -1<<41 || base+off < 0 || base+off > 1<<40 {
		return 0, api.ErrArg
	}
	m.handles[h].place = base + off
	return base + off, api.OK
}

// cut makes a file as long as that.
func (m *plain) cut(n int, to int64) {
	i := &m.inodes[n]
	for k, page := range i.pages {
		switch left := to - int64(k)*int64(m.size); {
		case left <= 0:
			delete(i.pages, k)
		case left < int64(m.size):
			i.pages[k] = page[:left] + string(make([]byte, int64(m.size)-left))
		}
	}
	i.size = to
}

func (m *plain) truncate(p string, size int64) api.Errno {
	n, e := m.resolve(p)
	switch {
	case e != api.OK:
		return e
	case m.inodes[n].kind == api.IDir:
		return api.ErrIsDir
	case size < 0:
		return api.ErrArg
	case size > m.greatest():
		return api.ErrBig
	}
	m.cut(n, size)
	return api.OK
}

func (m *plain) mkdir(p string) api.Errno {
	dir, name, n, e := m.parent(p)
	switch {
	case e != api.OK:
		return e
	case n > 0:
		return api.ErrExist
	}
	_, e = m.make(dir, name, api.IDir)
	return e
}

func (m *plain) rmdir(p string) api.Errno {
	dir, name, n, e := m.parent(p)
	switch {
	case e != api.OK:
		return e
	case n == 0:
		return api.ErrNoEntry
	case m.inodes[n].kind != api.IDir:
		return api.ErrNotDir
	case !m.empty(n):
		return api.ErrNotEmpty
	}
	m.remove(dir, name)
	m.inodes[n] = plainInode{}
	return api.OK
}

func (m *plain) unlink(p string) api.Errno {
	dir, name, n, e := m.parent(p)
	switch {
	case e != api.OK:
		return e
	case n == 0:
		return api.ErrNoEntry
	case m.inodes[n].kind == api.IDir:
		return api.ErrIsDir
	}
	m.remove(dir, name)
	m.inodes[n].links--
	m.sweep(n)
	return api.OK
}

func (m *plain) link(old, to string) api.Errno {
	n, e := m.resolve(old)
	if e != api.OK {
		return e
	}
	if m.inodes[n].kind == api.IDir {
		return api.ErrIsDir
	}
	dir, name, there, e := m.parent(to)
	switch {
	case e != api.OK:
		return e
	case there > 0:
		return api.ErrExist
	case m.inodes[n].links == 1000:
		return api.ErrLinks
	}
	if e = m.add(dir, name, n); e == api.OK {
		m.inodes[n].links++
	}
	return e
}

// height is how many names the longest path below an inode has.
func (m *plain) height(n int) int {
	most := 0
	for _, e := range m.inodes[n].slots {
		if e.Name != "" {
			most = max(most, 1+m.height(e.Inode))
		}
	}
	return most
}

func (m *plain) rename(old, to string) api.Errno {
	ahead, last, e := split(old)
	if e != api.OK {
		return e
	}
	toAhead, toLast, e := split(to)
	if e != api.OK {
		return e
	}
	if strings.HasPrefix("/"+strings.Join(append(slices.Clone(toAhead), toLast), "/")+"/", "/"+strings.Join(append(slices.Clone(ahead), last), "/")+"/") && len(toAhead) > len(ahead) {
		return api.ErrInside
	}
	dir, name, n, e := m.parent(old)
	switch {
	case e != api.OK:
		return e
	case n == 0:
		return api.ErrNoEntry
	}
	toDir, toName, there, e := m.parent(to)
	switch {
	case e != api.OK:
		return e
	case len(toAhead)+1+m.height(n) > 16 && m.height(n) > 0:
		return api.ErrPath
	case there == n:
		return api.OK
	case there == 0:
		if e = m.add(toDir, toName, n); e != api.OK {
			return e
		}
	case m.inodes[n].kind == api.IDir && m.inodes[there].kind != api.IDir:
		return api.ErrNotDir
	case m.inodes[n].kind != api.IDir && m.inodes[there].kind == api.IDir:
		return api.ErrIsDir
	case !m.empty(there):
		return api.ErrNotEmpty
	default:
		k := m.inodes[toDir].slot(toName)
		m.inodes[toDir].slots[k].Inode = n
		m.inodes[there].links--
		m.sweep(there)
	}
	m.remove(dir, name)
	return api.OK
}

func (m *plain) list(p string) ([]api.Entry, api.Errno) {
	n, e := m.resolve(p)
	if e != api.OK {
		return nil, e
	}
	if m.inodes[n].kind != api.IDir {
		return nil, api.ErrNotDir
	}
	return slices.DeleteFunc(slices.Clone(m.inodes[n].slots), func(e api.Entry) bool { return e.Name == "" }), api.OK
}

func (m *plain) statOf(n int) api.Stat {
	i := m.inodes[n]
	return api.Stat{Inode: n, Kind: i.kind, Links: i.links, Size: i.size + 16*int64(len(i.slots)), Pages: m.takes(i)}
}

func (m *plain) stat(p string) (api.Stat, api.Errno) {
	n, e := m.resolve(p)
	if e != api.OK {
		return api.Stat{}, e
	}
	return m.statOf(n), api.OK
}

func (m *plain) statFS(readOnly bool) api.StatFS {
	return api.StatFS{Pages: m.pages, UsedPages: m.pages - m.free(), Inodes: len(m.inodes) - 1, UsedInodes: m.used(), ReadOnly: readOnly}
}

// told is what a walk hands over.
type told struct {
	path string
	stat api.Stat
}

func (m *plain) below(n int, ahead string) []told {
	var l []told
	for _, e := range m.inodes[n].slots {
		if e.Name != "" {
			l = append(l, told{ahead + "/" + e.Name, m.statOf(e.Inode)})
			l = append(l, m.below(e.Inode, ahead+"/"+e.Name)...)
		}
	}
	return l
}

func (m *plain) walked(p string) []told {
	n, e := m.resolve(p)
	if e != api.OK {
		return nil
	}
	l, _ := names(p)
	ahead := ""
	for _, name := range l {
		ahead += "/" + name
	}
	return m.below(n, ahead)
}

// text is what stands in a file, page by page, as a text.
func (m *plain) text(n int) string {
	var b strings.Builder
	for _, k := range slices.Sorted(maps.Keys(m.inodes[n].pages)) {
		off := int64(k) * int64(m.size)
		fmt.Fprintf(&b, " %d %x", k, m.content(n, off, int64(m.size)))
	}
	return b.String()
}

// tells is all that there is, as a text.
func (m *plain) tells() string {
	var b strings.Builder
	fmt.Fprintln(&b, m.statFS(false), m.statOf(1))
	for _, at := range m.below(1, "") {
		fmt.Fprintf(&b, "%s %v%s\n", at.path, at.stat, m.text(at.stat.Inode))
	}
	return b.String()
}
