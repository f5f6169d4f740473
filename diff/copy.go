package diff

import (
	"cuneiform/api"
	"cuneiform/file"
	"cuneiform/fs"
	"cuneiform/path"
	"slices"
)

// Copy makes a directory as another one.
func Copy(f *fs.FS, p string, g *fs.FS, q string) api.Errno {
	if f == g && within(p, q) {
		return api.ErrInside
	}
	from, to, e := sides(f, p, g, q)
	if e != api.OK {
		return e
	}
	l, e := from.changes(to)
	if e != api.OK {
		return e
	}
	kinds := map[string]int{}
	for _, c := range l {
		kinds[c.Path] = c.Kind
	}
	if e = to.remove(kinds); e != api.OK {
		return e
	}
	return from.put(to, kinds)
}

// within tells whether both are paths, and one of them is the other, or lies in it.
func within(p, q string) bool {
	a, e := path.Parse(p)
	if e != api.OK {
		return false
	}
	b, e := path.Parse(q)
	if e != api.OK {
		return false
	}
	return slices.Equal(a, b) || path.Inside(a, b) || path.Inside(b, a)
}

// remove removes what is to go, or to be made anew.
func (to side) remove(kinds map[string]int) api.Errno {
	// From the last one on, so that a directory is empty by then.
	for at, s := range to.Back() {
		e := api.OK
		switch {
		case !goes(kinds[at], s):
		case s.Kind == api.IDir:
			e = to.Files().Rmdir(to.Path(at))
		default:
			e = to.Files().Unlink(to.Path(at))
		}
		if e != api.OK {
			return e
		}
	}
	return api.OK
}

// goes tells whether what has that change is removed first.
func goes(kind int, s api.Stat) bool {
	switch kind {
	case New, Other:
		return true
	case Bytes:
		// Another name of it, wherever that is, keeps the bytes that it has.
		return s.Links > 1
	}
	return false
}

// put makes in the other directory what is not there, or is unlike.
func (from side) put(to side, kinds map[string]int) api.Errno {
	for at, s := range from.All() {
		e := api.OK
		switch {
		case kinds[at] == alike:
		case s.Kind == api.IDir:
			e = to.Files().Mkdir(to.Path(at))
		default:
			e = from.carry(to, at, s.Size)
		}
		if e != api.OK {
			return e
		}
	}
	return api.OK
}

// carry writes a file of that size to the other directory.
func (from side) carry(to side, at string, size int64) api.Errno {
	e := from.with(at, fs.Reads, func(h int) api.Errno {
		return to.with(at, fs.Writes|fs.Creates|fs.Cuts, func(k int) api.Errno {
			return file.Pieces(from.Files(), h, func(place int64, b []byte) api.Errno {
				return file.Put(to.Files(), k, place, b)
			})
		})
	})
	if e != api.OK {
		return e
	}
	return to.Files().Truncate(to.Path(at), size)
}
