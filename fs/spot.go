package fs

import (
	"cuneiform/api"
	"cuneiform/path"
)

// spot is where a path's last name stands, or would.
type spot struct {
	dir   int
	name  string
	inode int // none, if the name is not there
}

// spotOf is the spot of a name in the directory that a row of names leads to.
func (f *FS) spotOf(ahead []string, last string) (spot, api.Errno) {
	dir, e := f.t.Walk(ahead)
	if e != api.OK {
		return spot{}, e
	}
	n, e := f.t.Find(dir, last)
	if e != api.OK && e != api.ErrNoEntry {
		return spot{}, e
	}
	return spot{dir, last, n}, api.OK
}

// find is the spot of a path's last name.
func (f *FS) find(p string) (spot, api.Errno) {
	ahead, last, e := path.Split(p)
	if e != api.OK {
		return spot{}, e
	}
	return f.spotOf(ahead, last)
}

// there is ErrNoEntry, if the name is not there.
func (at spot) there() api.Errno {
	if at.inode == none {
		return api.ErrNoEntry
	}
	return api.OK
}

// free is ErrExist, if the name is there.
func (at spot) free() api.Errno {
	if at.inode != none {
		return api.ErrExist
	}
	return api.OK
}

// plant makes an inode of a kind, and gives it a name that is not there.
func (f *FS) plant(at spot, kind int) (int, api.Errno) {
	n, e := f.t.Make(kind)
	if e != api.OK {
		return none, e
	}
	if e = f.t.Add(at.dir, at.name, n); e != api.OK {
		f.t.Drop(n)
		return none, e
	}
	return n, f.link(n, 1)
}
