package fs

import (
	"cuneiform/api"
	"cuneiform/node"
)

const farthest = 1 << 40 // the greatest place of a handle

// handle is a handle. One that is not open is of no inode.
type handle struct {
	inode int
	flags int
	place int64
}

// right tells whether flags are right.
func right(flags int) bool {
	has := func(some int) bool { return flags&some != 0 }
	switch {
	case flags < 0 || flags > Reads|Writes|Creates|Only|Cuts|Appends:
		return false
	case has(Only) && !has(Creates):
		return false
	case has(Cuts|Appends) && !has(Writes):
		return false
	}
	return has(Reads | Writes)
}

// handle is an open handle that has this flag (0: whatever it has).
func (f *FS) handle(h, flag int) (*handle, api.Errno) {
	switch {
	case h < 0 || h >= len(f.handles) || f.handles[h].inode == none:
		return nil, api.ErrHandle
	case f.handles[h].flags&flag != flag:
		return nil, api.ErrAccess
	}
	return &f.handles[h], api.OK
}

// handleOn is the lowest number of a handle that is on an inode (-1, if there is none). Those that are not open are on none.
func (f *FS) handleOn(n int) int {
	for h, at := range f.handles {
		if at.inode == n {
			return h
		}
	}
	return -1
}

// Open opens a file.
func (f *FS) Open(p string, flags int) (int, api.Errno) {
	if !right(flags) {
		return 0, api.ErrArg
	}
	first := f.asks
	if flags&(Creates|Cuts) != 0 {
		first = f.changes
	}
	if e := first(); e != api.OK {
		return 0, e
	}
	at, e := f.find(p)
	if e == api.OK {
		e = f.opens(at, flags)
	}
	if e != api.OK {
		return 0, e
	}
	h := f.handleOn(none)
	if h < 0 {
		return 0, api.ErrHandles
	}
	if at.inode == none {
		at.inode, e = f.plant(at, api.IFile)
	} else if flags&Cuts != 0 {
		e = f.resize(at.inode, 0)
	}
	if e != api.OK {
		return 0, e
	}
	f.handles[h] = handle{inode: at.inode, flags: flags}
	return h, api.OK
}

// opens is an error, if with these flags nothing is opened by that name.
func (f *FS) opens(at spot, flags int) api.Errno {
	switch {
	case at.inode == none && flags&Creates == 0:
		return api.ErrNoEntry
	case at.inode == none:
		return api.OK
	case flags&Only != 0:
		return api.ErrExist
	}
	return f.noDir(at.inode)
}

// Close closes a handle.
func (f *FS) Close(h int) api.Errno {
	if e := f.asks(); e != api.OK {
		return e
	}
	at, e := f.handle(h, 0)
	if e != api.OK {
		return e
	}
	return f.shut(at)
}

// shut closes a handle that is open.
func (f *FS) shut(at *handle) api.Errno {
	n := at.inode
	*at = handle{}
	return f.sweep(n)
}

// closeAll closes all handles.
func (f *FS) closeAll() api.Errno {
	for h := range f.handles {
		at, e := f.handle(h, 0)
		if e != api.OK {
			continue
		}
		if e = f.shut(at); e != api.OK {
			return e
		}
	}
	return api.OK
}

// Read reads on at a handle.
func (f *FS) Read(h, n int) ([]byte, api.Errno) {
	if e := f.asks(); e != api.OK {
		return nil, e
	}
	at, e := f.handle(h, Reads)
	if e != api.OK {
		return nil, e
	}
	i, e := f.t.Inode(at.inode)
	if e != api.OK {
		return nil, e
	}
	b, e := node.Read(f.t.Pool(), i, at.place, n)
	if e != api.OK {
		return nil, e
	}
	at.place += int64(len(b))
	return b, api.OK
}

// Write writes on at a handle.
func (f *FS) Write(h int, b []byte) (int, api.Errno) {
	if e := f.changes(); e != api.OK {
		return 0, e
	}
	at, e := f.handle(h, Writes)
	if e != api.OK {
		return 0, e
	}
	place := at.place
	e = f.rework(at.inode, func(i api.Inode) (api.Inode, api.Errno) {
		if at.flags&Appends != 0 {
			place = i.Size
		}
		return node.Write(f.t.Pool(), i, place, b)
	})
	if e != api.OK {
		return 0, e
	}
	at.place = place + int64(len(b))
	return len(b), api.OK
}

// Seek sets a handle's place.
func (f *FS) Seek(h int, off int64, from int) (int64, api.Errno) {
	if e := f.asks(); e != api.OK {
		return 0, e
	}
	at, e := f.handle(h, 0)
	if e != api.OK {
		return 0, e
	}
	base := int64(0)
	switch from {
	case 0:
	case 1:
		base = at.place
	case 2:
		i, e := f.t.Inode(at.inode)
		if e != api.OK {
			return 0, e
		}
		base = i.Size
	default:
		return 0, api.ErrArg
	}
	// Held against what is left on either side, so that no sum leaves its type.
	if off < -base || off > farthest-base {
		return 0, api.ErrArg
	}
	at.place = base + off
	return at.place, api.OK
}
