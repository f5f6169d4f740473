package node

import (
	"cuneiform/api"
	"cuneiform/inode"
	"cuneiform/pool"
)

// draft is what a call does to a pool's pages. It is gathered first: only when nothing can be refused any more it is done.
type draft struct {
	p     *pool.Pool
	pages map[int][]byte // the bytes that pages are given
	made  []int          // pages that were handed out for it
	gone  []int          // pages that are taken back
}

// done does it. Of a file's own pages nothing of this is refused, and the order plays no part.
func (d *draft) done() {
	for page, b := range d.pages {
		d.p.Put(page, b)
	}
	for _, page := range d.gone {
		d.p.Free(page)
	}
}

// undo gives back what was handed out.
func (d *draft) undo() {
	for _, page := range d.made {
		d.p.Free(page)
	}
}

// bytes are a page's bytes as the draft has them.
func (d *draft) bytes(page int) ([]byte, api.Errno) {
	if b, ok := d.pages[page]; ok {
		return b, api.OK
	}
	return get(d.p, page)
}

// alloc hands out a page.
func (d *draft) alloc() (int, api.Errno) {
	page, e := d.p.Alloc()
	if e != api.OK {
		return none, api.ErrSpace
	}
	d.made = append(d.made, page)
	return page, api.OK
}

// reach is the pool's page that holds a file's page: what is not there on the way to it, and itself, is handed out.
func (d *draft) reach(i *api.Inode, n int) (int, api.Errno) {
	top, way, e := route(d.p.Size(), i, n)
	if e != api.OK {
		return none, e
	}
	if *top == none {
		if *top, e = d.alloc(); e != api.OK {
			return none, e
		}
	}
	page := *top
	for _, k := range way {
		if page, e = d.step(page, k); e != api.OK {
			return none, e
		}
	}
	return page, api.OK
}

// step is the page to which a pointer of a page of pointers leads: one that is handed out, if it leads to none.
func (d *draft) step(page, k int) (int, api.Errno) {
	b, e := d.bytes(page)
	if e != api.OK {
		return none, e
	}
	to, e := inode.Pointer(b, k)
	if e != api.OK || to != none {
		return to, e
	}
	if to, e = d.alloc(); e != api.OK {
		return none, e
	}
	if b, e = inode.Point(b, k, to); e != api.OK {
		return none, e
	}
	d.pages[page] = b
	return to, api.OK
}

// write writes bytes into a file.
func (d *draft) write(i *api.Inode, off int64, b []byte) api.Errno {
	// All pages are handed out ahead of the reading: that there is no space is named first.
	var pages []int
	for at := range parts(d.p.Size(), off, b) {
		page, e := d.reach(i, at.page)
		if e != api.OK {
			return e
		}
		pages = append(pages, page)
	}
	for at, part := range parts(d.p.Size(), off, b) {
		page := pages[0]
		pages = pages[1:]
		stands, e := d.bytes(page)
		if e != api.OK {
			return e
		}
		copy(stands[at.from:], part)
		d.pages[page] = stands
	}
	return api.OK
}

// shorten leaves of a file the bytes below to.
func (d *draft) shorten(i *api.Inode, to int64) api.Errno {
	keep := 0 // how many pages have a byte below to
	if to > 0 {
		last := int((to - 1) / int64(d.p.Size()))
		if e := d.blank(*i, last, int(to-int64(last)*int64(d.p.Size()))); e != api.OK {
			return e
		}
		keep = last + 1
	}
	for _, r := range roots(d.p.Size(), i) {
		page, e := d.cut(r.spot(), keep)
		if e != api.OK {
			return e
		}
		*r.to = page
	}
	return api.OK
}

// blank makes the bytes of a file's page from one on 0.
func (d *draft) blank(i api.Inode, n, from int) api.Errno {
	page, e := find(d.p, i, n)
	if e != api.OK || page == none || from == d.p.Size() {
		return e
	}
	b, e := get(d.p, page)
	if e != api.OK {
		return e
	}
	clear(b[from:])
	d.pages[page] = b
	return api.OK
}

// cut is where a pointer leads when of the file's pages those below keep stay: none, if it leads to none of these.
func (d *draft) cut(at spot, keep int) (int, api.Errno) {
	switch {
	case at.page == none || at.first+span(d.p.Size(), at.levels) <= keep:
		return at.page, api.OK
	case at.levels > 0:
		return d.cutPointers(at, keep)
	}
	d.gone = append(d.gone, at.page)
	return none, api.OK
}

// cutPointers is cut of a page of pointers.
func (d *draft) cutPointers(at spot, keep int) (int, api.Errno) {
	b, e := get(d.p, at.page)
	if e != api.OK {
		return none, e
	}
	stay, end := 0, 0 // behind the last pointer that leads somewhere then, and behind the last one that did
	for k, next := range at.below(b) {
		to, e := d.cut(next, keep)
		if e != api.OK {
			return none, e
		}
		end = k + 1
		if to != none {
			stay = end
		}
	}
	if stay == 0 {
		d.gone = append(d.gone, at.page)
		return none, api.OK
	}
	if stay < end {
		clear(b[stay*pointerSize:])
		d.pages[at.page] = b
	}
	return at.page, api.OK
}
