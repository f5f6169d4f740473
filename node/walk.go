package node

import (
	"cuneiform/api"
	"cuneiform/inode"
	"cuneiform/pool"
	"iter"
)

const (
	none        = 0 // the number of no page of the pool: what such a pointer leads to is not there
	pointerSize = 2 // bytes of a pointer in a page of pointers
)

// spot is a page of the pool that belongs to a file, or where one would.
type spot struct {
	page   int // its number in the pool, or none
	levels int // of pointers: 0, if it holds bytes
	first  int // the first of the file's pages that it is or leads to
}

// span is how many of a file's pages a page leads to that is of so many levels.
func span(size, levels int) int {
	n := 1
	for range levels {
		n *= size / pointerSize
	}
	return n
}

// root is a pointer of an inode, with what is known of the page that it leads to.
type root struct {
	to            *int
	levels, first int
}

func (r root) spot() spot {
	return spot{*r.to, r.levels, r.first}
}

// roots are an inode's pointers, in the order of the file's pages that they lead to.
func roots(size int, i *api.Inode) []root {
	var l []root
	for n := range i.Direct {
		l = append(l, root{&i.Direct[n], 0, n})
	}
	single := root{&i.Single, 1, len(i.Direct)}
	double := root{&i.Double, 2, single.first + span(size, 1)}
	return append(l, single, double)
}

// below are the spots that a page of pointers with these bytes points to, with the pointers' numbers.
func (at spot) below(b []byte) iter.Seq2[int, spot] {
	each := span(len(b), at.levels-1)
	return func(yield func(int, spot) bool) {
		for k, to := range inode.Pointers(b) {
			if !yield(k, spot{to, at.levels - 1, at.first + k*each}) {
				return
			}
		}
	}
}

// get are the bytes of a page that a file owns.
func get(p *pool.Pool, page int) ([]byte, api.Errno) {
	if page < p.Layout().First {
		// The table's pages are no file's, whatever an inode says.
		return nil, api.ErrArg
	}
	return p.Get(page)
}

// walk goes through a page, and behind it all that it leads to. What can't be read leads to nothing.
func walk(p *pool.Pool, at spot, visit func(spot)) {
	if at.page == none {
		return
	}
	visit(at)
	if at.levels == 0 {
		return
	}
	b, e := get(p, at.page)
	if e != api.OK {
		return
	}
	for _, next := range at.below(b) {
		walk(p, next, visit)
	}
}

// owned are the pages that a file owns, in the order of the file's pages that they are or lead to.
func owned(p *pool.Pool, i api.Inode) []spot {
	var l []spot
	if p == nil {
		return l
	}
	for _, r := range roots(p.Size(), &i) {
		walk(p, r.spot(), func(at spot) { l = append(l, at) })
	}
	return l
}

// route is the way to a file's page: a pointer of the inode, and the numbers of the pointers in the pages of pointers behind it.
func route(size int, i *api.Inode, n int) (*int, []int, api.Errno) {
	w, e := inode.To(size, n)
	switch {
	case e != api.OK:
		return nil, nil, e
	case w.Level == 0:
		return &i.Direct[w.First], nil, api.OK
	case w.Level == 1:
		return &i.Single, []int{w.First}, api.OK
	}
	return &i.Double, []int{w.First, w.Second}, api.OK
}

// find is the pool's page that holds a file's page; none, if that is not there.
func find(p *pool.Pool, i api.Inode, n int) (int, api.Errno) {
	top, way, e := route(p.Size(), &i, n)
	if e != api.OK {
		return none, e
	}
	page := *top
	for _, k := range way {
		if page == none {
			break
		}
		b, e := get(p, page)
		if e != api.OK {
			return none, e
		}
		if page, e = inode.Pointer(b, k); e != api.OK {
			return none, e
		}
	}
	return page, api.OK
}

// place is a place in a file.
type place struct {
	page int // the number of the file's page
	from int // where in that
}

// parts are the parts of bytes that stand in a file from off on, each with the place where it begins: none of them goes over the end of a page.
func parts(size int, off int64, b []byte) iter.Seq2[place, []byte] {
	return func(yield func(place, []byte) bool) {
		for done := 0; done < len(b); {
			from := off + int64(done)
			at := place{int(from / int64(size)), int(from % int64(size))}
			part := b[done:min(len(b), done+size-at.from)]
			if !yield(at, part) {
				return
			}
			done += len(part)
		}
	}
}
