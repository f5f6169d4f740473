package pack

import (
	"cuneiform/api"
	"cuneiform/below"
	"cuneiform/crc"
	"cuneiform/file"
	"cuneiform/fs"
	"cuneiform/squeeze"
)

// writer puts an archive together.
type writer struct {
	bytes   []byte
	count   int         // entries so far
	numbers map[int]int // of files' inodes: the numbers of the entries where they came first
}

func newWriter() *writer {
	return &writer{bytes: []byte(mark), numbers: map[int]int{}}
}

// number puts a number of so many bytes, the least byte first.
func (w *writer) number(n uint64, size int) {
	for range size {
		w.bytes = append(w.bytes, byte(n))
		n >>= 8
	}
}

// head puts what each entry begins with.
func (w *writer) head(kind int, at string) {
	w.number(uint64(kind), 1)
	w.number(uint64(len(at)), pathBytes)
	w.bytes = append(w.bytes, at...)
}

// entry puts the entry of what is below a directory.
func (w *writer) entry(d *below.Dir, at string, s api.Stat) api.Errno {
	first, again := w.numbers[s.Inode]
	switch {
	case s.Kind == api.IDir:
		w.head(aDir, at)
	case again:
		w.head(another, at)
		w.number(uint64(first), nameBytes)
	default:
		w.numbers[s.Inode] = w.count
		w.head(aFile, at)
		w.number(uint64(s.Size), sizeBytes)
		if e := file.With(d.Files(), d.Path(at), fs.Reads, func(h int) api.Errno {
			return file.Pieces(d.Files(), h, w.stretch)
		}); e != api.OK {
			return e
		}
		w.number(noMore, 1)
	}
	w.count++
	return w.fits()
}

// stretch puts a file's bytes from a place on.
func (w *writer) stretch(at int64, b []byte) api.Errno {
	squeezed, e := squeeze.Squeeze(b)
	if e != api.OK {
		return e
	}
	w.number(more, 1)
	w.number(uint64(at), sizeBytes)
	w.number(uint64(len(squeezed)), countBytes)
	w.bytes = append(w.bytes, squeezed...)
	return w.fits()
}

// fits is ErrLong, if an archive that has this would be too long.
func (w *writer) fits() api.Errno {
	if w.count > mostEntries || len(w.bytes)+1+sumBytes > mostBytes {
		return api.ErrLong
	}
	return api.OK
}

// end is the archive.
func (w *writer) end() []byte {
	w.number(theEnd, 1)
	w.number(uint64(crc.Sum(w.bytes)), sumBytes)
	return w.bytes
}
