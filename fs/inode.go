package fs

import (
	"cuneiform/api"
	"cuneiform/node"
)

// rework makes an inode what how makes of it.
func (f *FS) rework(n int, how func(api.Inode) (api.Inode, api.Errno)) api.Errno {
	was, e := f.t.Inode(n)
	if e != api.OK {
		return e
	}
	now, e := how(was)
	if e != api.OK || now == was {
		return e
	}
	return f.t.Set(n, now)
}

// resize makes a file as long as that.
func (f *FS) resize(n int, size int64) api.Errno {
	return f.rework(n, func(i api.Inode) (api.Inode, api.Errno) {
		return node.Truncate(f.t.Pool(), i, size)
	})
}

// link gives an inode so many links more.
func (f *FS) link(n, more int) api.Errno {
	return f.rework(n, func(i api.Inode) (api.Inode, api.Errno) {
		i.Links += more
		return i, api.OK
	})
}

// leave takes a link of a file.
func (f *FS) leave(n int) api.Errno {
	if e := f.link(n, -1); e != api.OK {
		return e
	}
	return f.sweep(n)
}

// sweep drops an inode, if nothing names it and no handle is open on it.
func (f *FS) sweep(n int) api.Errno {
	i, e := f.t.Inode(n)
	if e != api.OK || i.Links > 0 || f.handleOn(n) >= 0 {
		return e
	}
	return f.t.Drop(n)
}

// isDir tells whether an inode is a directory's.
func (f *FS) isDir(n int) (bool, api.Errno) {
	i, e := f.t.Inode(n)
	return i.Kind == api.IDir, e
}

// noDir is ErrIsDir, if an inode is a directory's.
func (f *FS) noDir(n int) api.Errno {
	dir, e := f.isDir(n)
	if dir {
		return api.ErrIsDir
	}
	return e
}

// emptyDir is ErrNotDir, if an inode is no directory's, and ErrNotEmpty, if that has an entry.
func (f *FS) emptyDir(n int) api.Errno {
	dir, e := f.isDir(n)
	switch {
	case e != api.OK:
		return e
	case !dir:
		return api.ErrNotDir
	}
	for range f.t.Entries(n) {
		return api.ErrNotEmpty
	}
	return api.OK
}
