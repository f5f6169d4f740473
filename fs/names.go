package fs

import (
	"cuneiform/api"
	"cuneiform/path"
	"slices"
)

// Truncate makes a file as long as that.
func (f *FS) Truncate(p string, size int64) api.Errno {
	if e := f.changes(); e != api.OK {
		return e
	}
	n, e := f.resolve(p)
	if e == api.OK {
		e = f.noDir(n)
	}
	if e != api.OK {
		return e
	}
	return f.resize(n, size)
}

// Mkdir makes a directory.
func (f *FS) Mkdir(p string) api.Errno {
	if e := f.changes(); e != api.OK {
		return e
	}
	at, e := f.find(p)
	if e == api.OK {
		e = at.free()
	}
	if e != api.OK {
		return e
	}
	_, e = f.plant(at, api.IDir)
	return e
}

// findThere is the spot of a path's last name, which has to be there.
func (f *FS) findThere(p string) (spot, api.Errno) {
	at, e := f.find(p)
	if e == api.OK {
		e = at.there()
	}
	return at, e
}

// Rmdir removes a directory.
func (f *FS) Rmdir(p string) api.Errno {
	if e := f.changes(); e != api.OK {
		return e
	}
	at, e := f.findThere(p)
	if e == api.OK {
		e = f.emptyDir(at.inode)
	}
	if e == api.OK {
		e = f.t.Remove(at.dir, at.name)
	}
	if e != api.OK {
		return e
	}
	return f.t.Drop(at.inode)
}

// Unlink removes a file's name.
func (f *FS) Unlink(p string) api.Errno {
	if e := f.changes(); e != api.OK {
		return e
	}
	at, e := f.findThere(p)
	if e == api.OK {
		e = f.noDir(at.inode)
	}
	if e == api.OK {
		e = f.t.Remove(at.dir, at.name)
	}
	if e != api.OK {
		return e
	}
	return f.leave(at.inode)
}

// Link gives a file another name.
func (f *FS) Link(old, to string) api.Errno {
	if e := f.changes(); e != api.OK {
		return e
	}
	n, e := f.resolve(old)
	if e == api.OK {
		e = f.noDir(n)
	}
	if e != api.OK {
		return e
	}
	at, e := f.find(to)
	if e == api.OK {
		e = at.free()
	}
	if e != api.OK {
		return e
	}
	i, e := f.t.Inode(n)
	switch {
	case e != api.OK:
		return e
	case i.Links >= api.MaxLinks:
		return api.ErrLinks
	}
	if e = f.t.Add(at.dir, at.name, n); e != api.OK {
		return e
	}
	return f.link(n, 1)
}

// Rename gives what has a name another one.
func (f *FS) Rename(old, to string) api.Errno {
	if e := f.changes(); e != api.OK {
		return e
	}
	from, at, e := f.twoSpots(old, to)
	if e != api.OK || from.inode == at.inode {
		return e
	}
	if at.inode == none {
		e = f.t.Add(at.dir, at.name, from.inode)
	} else {
		e = f.replace(at, from.inode)
	}
	if e != api.OK {
		return e
	}
	return f.t.Remove(from.dir, from.name)
}

// twoSpots are where a rename takes a name from, and where it puts it, if it may as far as paths go.
func (f *FS) twoSpots(old, to string) (from, at spot, e api.Errno) {
	ahead, last, e := path.Split(old)
	if e != api.OK {
		return from, at, e
	}
	toAhead, toLast, e := path.Split(to)
	if e != api.OK {
		return from, at, e
	}
	names := slices.Concat(toAhead, []string{toLast})
	if path.Inside(names, slices.Concat(ahead, []string{last})) {
		return from, at, api.ErrInside
	}
	from, e = f.spotOf(ahead, last)
	if e == api.OK {
		e = from.there()
	}
	if e != api.OK {
		return from, at, e
	}
	if at, e = f.spotOf(toAhead, toLast); e != api.OK {
		return from, at, e
	}
	return from, at, f.tooDeep(from.inode, names)
}

// tooDeep is ErrPath, if below a directory with these names a path would have more names than it may.
func (f *FS) tooDeep(n int, names []string) api.Errno {
	for l := range f.below(n, names, map[int]struct{}{}) {
		if len(l) > api.MaxDepth {
			return api.ErrPath
		}
	}
	return api.OK
}

// replace makes a name that is there another inode's, if it may be that one's.
func (f *FS) replace(at spot, n int) api.Errno {
	dir, e := f.isDir(n)
	if e != api.OK {
		return e
	}
	fits := f.noDir
	if dir {
		fits = f.emptyDir
	}
	if e = fits(at.inode); e != api.OK {
		return e
	}
	if e = f.t.Turn(at.dir, at.name, n); e != api.OK {
		return e
	}
	// A directory has just this link, and goes.
	return f.leave(at.inode)
}
