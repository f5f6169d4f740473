package tree

import (
	"cuneiform/api"
	"cuneiform/dirs"
	"cuneiform/node"
	"iter"
)

const (
	root     = 1  // the inode at which each walk begins
	slotSize = 16 // bytes of a directory's slot
)

// Bytes are a directory's bytes.
func (t *Tree) Bytes(n int) ([]byte, api.Errno) {
	i, e := t.Inode(n)
	switch {
	case e != api.OK:
		return nil, e
	case i.Kind != api.IDir:
		return nil, api.ErrNotDir
	}
	var b []byte
	for {
		part, e := node.Read(t.p, i, int64(len(b)), api.MaxIO)
		if e != api.OK {
			return nil, e
		}
		b = append(b, part...)
		if len(part) < api.MaxIO {
			return b, api.OK
		}
	}
}

// found is an entry that was looked for.
type found struct {
	bytes []byte // of the directory
	slot  int
	inode int
}

// look looks for the entry of a name.
func (t *Tree) look(dir int, name string) (found, api.Errno) {
	b, e := t.Bytes(dir)
	if e != api.OK {
		return found{}, e
	}
	k, n := dirs.Find(b, name)
	if k < 0 {
		return found{}, api.ErrNoEntry
	}
	return found{b, k, n}, api.OK
}

// Find is the inode of a name.
func (t *Tree) Find(dir int, name string) (int, api.Errno) {
	at, e := t.look(dir, name)
	return at.inode, e
}

// Walk is the inode of a row of names, from the root on.
func (t *Tree) Walk(names []string) (int, api.Errno) {
	if t == nil {
		return 0, api.ErrNil
	}
	at, e := root, api.OK
walk:
	for _, name := range names {
		at, e = t.Find(at, name)
		if e != api.OK {
			break walk
		}
	}
	return at, e
}

// Add adds an entry to a directory.
func (t *Tree) Add(dir int, name string, n int) api.Errno {
	b, e := t.Bytes(dir)
	switch {
	case e != api.OK:
		return e
	case !t.has(n):
		return api.ErrArg
	}
	entry := api.Entry{Inode: n, Name: name}
	// dirs names bytes that are not right first; here that comes behind what is wrong with the entry.
	if _, e = dirs.Write(entry); e != api.OK {
		return e
	}
	if k, _ := dirs.Find(b, name); k >= 0 {
		return api.ErrExist
	}
	more, e := dirs.Add(b, entry)
	if e != api.OK {
		return e
	}
	e = t.store(dir, dirs.Room(b), more)
	if e == api.ErrBig {
		return api.ErrSpace
	}
	return e
}

// Remove removes an entry of a directory.
func (t *Tree) Remove(dir int, name string) api.Errno {
	at, e := t.look(dir, name)
	if e != api.OK {
		return e
	}
	left, e := dirs.Remove(at.bytes, name)
	if e != api.OK {
		return e
	}
	return t.store(dir, at.slot, left)
}

// Turn makes an entry another inode's.
func (t *Tree) Turn(dir int, name string, n int) api.Errno {
	at, e := t.look(dir, name)
	switch {
	case e != api.OK:
		return e
	case !t.has(n):
		return api.ErrArg
	}
	turned, e := dirs.Turn(at.bytes, name, n)
	if e != api.OK {
		return e
	}
	return t.store(dir, at.slot, turned)
}

// store gives a directory bytes that differ from those it has in one slot: that one is written, or, if it is not among them any more, what is behind them is cut off.
func (t *Tree) store(dir, slot int, b []byte) api.Errno {
	i, e := t.Inode(dir)
	if e != api.OK {
		return e
	}
	if from := slot * slotSize; from < len(b) {
		i, e = node.Write(t.p, i, int64(from), b[from:from+slotSize])
	} else {
		i, e = node.Truncate(t.p, i, int64(len(b)))
	}
	if e != api.OK {
		return e
	}
	return t.Set(dir, i)
}

// Entries are a directory's entries, with the numbers of their slots.
func (t *Tree) Entries(dir int) iter.Seq2[int, api.Entry] {
	// They are those of now: who is told of them may remove them one by one.
	b, _ := t.Bytes(dir)
	return dirs.All(b)
}
