package pack

import (
	"bytes"
	"cuneiform/api"
	"cuneiform/crc"
	"cuneiform/file"
	"cuneiform/path"
	"cuneiform/squeeze"
	"slices"
)

// entry is an entry as it was read, with what stands in a file.
type entry struct {
	Item
	stretches []stretch
}

// stretch are a file's bytes from a place on.
type stretch struct {
	at    int64
	bytes []byte
}

// source is what is read, from its beginning on.
type source struct {
	rest  []byte
	short bool // more was to be taken than there was
}

// take takes so many bytes; none, if there are not so many.
func (s *source) take(n int) []byte {
	if n > len(s.rest) {
		s.rest, s.short = nil, true
		return nil
	}
	b := s.rest[:n]
	s.rest = s.rest[n:]
	return b
}

// number takes a number of so many bytes, the least byte first.
func (s *source) number(size int) uint64 {
	n := uint64(0)
	for k, c := range s.take(size) {
		n |= uint64(c) << (8 * k)
	}
	return n
}

// reader reads an archive.
type reader struct {
	source
	entries []entry
	numbers map[string]int // of the entries so far, by their paths
}

// read are an archive's entries.
func read(b []byte) ([]entry, api.Errno) {
	switch {
	case len(b) > mostBytes:
		return nil, api.ErrLong
	case len(b) < leastBytes:
		return nil, api.ErrTorn
	}
	told := source{rest: b[len(b)-sumBytes:]}
	b = b[:len(b)-sumBytes]
	if told.number(sumBytes) != uint64(crc.Sum(b)) {
		return nil, api.ErrTorn
	}
	r := reader{source: source{rest: b}, numbers: map[string]int{}}
	if !r.archive() {
		return nil, api.ErrEntry
	}
	return r.entries, api.OK
}

// archive reads all, and tells whether it is right.
func (r *reader) archive() bool {
	if string(r.take(len(mark))) != mark {
		return false
	}
	for {
		kind := int(r.number(1))
		if kind == theEnd {
			return !r.short && len(r.rest) == 0
		}
		if len(r.entries) == mostEntries || !r.entry(kind) {
			return false
		}
	}
}

// entry reads an entry, and tells whether it is right.
func (r *reader) entry(kind int) bool {
	x := entry{Item: Item{Kind: kind}}
	x.Path = string(r.take(int(r.number(pathBytes))))
	if !r.fits(x.Path) {
		return false
	}
	switch kind {
	case aDir:
	case aFile:
		if !r.file(&x) {
			return false
		}
	case another:
		x.Of = int(r.number(nameBytes))
		if x.Of >= len(r.entries) || r.entries[x.Of].Kind != aFile {
			return false
		}
	default:
		return false
	}
	r.numbers[x.Path] = len(r.entries)
	r.entries = append(r.entries, x)
	return true
}

// fits tells whether a path is right, and may stand behind those so far.
func (r *reader) fits(p string) bool {
	ahead, last, e := path.Split(p)
	if e != api.OK {
		return false
	}
	parent, e := path.Join(ahead)
	if e != api.OK {
		return false
	}
	whole, e := path.Join(slices.Concat(ahead, []string{last}))
	if e != api.OK || whole != p {
		return false
	}
	if _, twice := r.numbers[p]; twice {
		return false
	}
	n, there := r.numbers[parent]
	return len(ahead) == 0 || there && r.entries[n].Kind == aDir
}

// file reads a file's size and stretches, and tells whether they are right.
func (r *reader) file(x *entry) bool {
	size := r.number(sizeBytes)
	if size > mostSize {
		return false
	}
	x.Size = int64(size)
	for least := int64(0); ; {
		switch r.number(1) {
		case noMore:
			return true
		case more:
		default:
			return false
		}
		s, right := r.stretch(least, x.Size)
		if !right {
			return false
		}
		x.stretches = append(x.stretches, s)
		least = s.at + file.Piece
	}
}

// stretch reads a stretch of a file of that size, which begins at the least at that place, and tells whether it is right.
func (r *reader) stretch(least, size int64) (stretch, bool) {
	at := r.number(sizeBytes)
	squeezed := r.take(int(r.number(countBytes)))
	// Held against the size first: so it is none that a signed number could not be.
	if at >= uint64(size) || at%file.Piece != 0 || int64(at) < least {
		return stretch{}, false
	}
	b, e := squeeze.Open(squeezed, file.Piece)
	if e != api.OK || file.Zero(b) || int64(len(b)) != min(file.Piece, size-int64(at)) {
		return stretch{}, false
	}
	// Many squeezed bytes are opened as the same ones: here just those may stand that these are squeezed to.
	if again, e := squeeze.Squeeze(b); e != api.OK || !bytes.Equal(again, squeezed) {
		return stretch{}, false
	}
	return stretch{int64(at), b}, true
}
