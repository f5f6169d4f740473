package tree

import (
	"cuneiform/api"
	"cuneiform/inode"
	"iter"
)

const firstPage = 1 // of the table

// count is how many inodes there are: as many as the layout says, as far as the table has room for them.
func (t *Tree) count() int {
	p := t.Pool()
	return min(p.Layout().Inodes, p.Layout().Table*inode.PerPage(p.Size()))
}

// has tells whether there is an inode of that number.
func (t *Tree) has(n int) bool {
	return n >= 1 && n <= t.count()
}

// place is where an inode stands: in which page of the table, and as which of that page's inodes.
func (t *Tree) place(n int) (page, k int, e api.Errno) {
	switch {
	case t == nil:
		return 0, 0, api.ErrNil
	case !t.has(n):
		return 0, 0, api.ErrArg
	}
	m := inode.PerPage(t.p.Size())
	return firstPage + (n-1)/m, (n - 1) % m, api.OK
}

// stand is what Inode answers of a number.
type stand struct {
	i api.Inode
	e api.Errno
}

// known tells whether the bytes could be read, be they an inode's or not.
func (s stand) known() bool {
	return s.e == api.OK || s.e == api.ErrInode
}

func (s stand) free() bool {
	return s.e == api.OK && s.i.Kind == api.IFree
}

// inodes are the numbers from 1 on with what Inode answers of them. Each page of the table is read just once, since there may be many inodes.
func (t *Tree) inodes() iter.Seq2[int, stand] {
	return func(yield func(int, stand) bool) {
		var b []byte
		var e api.Errno
		for n := 1; t.has(n); n++ {
			page, k, _ := t.place(n)
			if k == 0 {
				b, e = t.p.Get(page)
			}
			s := stand{e: e}
			if e == api.OK {
				s.i, s.e = inode.Get(b, k)
			}
			if !yield(n, s) {
				return
			}
		}
	}
}

// firstFree is the number of the first free inode.
func (t *Tree) firstFree() (int, api.Errno) {
	for n, s := range t.inodes() {
		switch {
		case s.free():
			return n, api.OK
		case !s.known():
			return 0, s.e
		}
	}
	return 0, api.ErrSpace
}
