package pack

import (
	"bytes"
	"encoding/binary"
	"hash/crc32"
	"strings"

	"cuneiform/api"
	"cuneiform/fs"
	"cuneiform/squeeze"
)

// What the document says, told plainly: archives are put together and taken apart by places, files are read whole.

// archive is an archive, as far as it is put together.
type archive []byte

// piece is a stretch: a place, and squeezed bytes.
type piece struct {
	at       uint64
	squeezed []byte
}

func begun() archive {
	return archive{67, 85, 78, 65}
}

func (a archive) head(kind byte, p string) archive {
	a = binary.LittleEndian.AppendUint16(append(bytes.Clone(a), kind), uint16(len(p)))
	return append(a, p...)
}

func (a archive) dir(p string) archive {
	return a.head(1, p)
}

func (a archive) file(p string, size uint64, l ...piece) archive {
	a = binary.LittleEndian.AppendUint64(a.head(2, p), size)
	for _, s := range l {
		a = binary.LittleEndian.AppendUint64(append(a, 1), s.at)
		a = binary.LittleEndian.AppendUint16(a, uint16(len(s.squeezed)))
		a = append(a, s.squeezed...)
	}
	return append(a, 0)
}

func (a archive) name(p string, of int) archive {
	return binary.LittleEndian.AppendUint16(a.head(3, p), uint16(of))
}

// end is the archive that it is.
func (a archive) end() []byte {
	return sealed(append(bytes.Clone(a), 0))
}

// sealed are bytes with their sum behind.
func sealed(b []byte) []byte {
	return binary.LittleEndian.AppendUint32(bytes.Clone(b), crc32.ChecksumIEEE(b))
}

// stretched is the stretch of a text.
func stretched(at uint64, text string) piece {
	s, _ := squeeze.Squeeze([]byte(text))
	return piece{at, s}
}

// names are a path's, and whether it is right.
func names(p string) ([]string, bool) {
	var l []string
	if len(p) < 1 || len(p) > 255 || p[0] != '/' {
		return nil, false
	}
	for part := range strings.SplitSeq(p[1:], "/") {
		if part == "." || part == ".." || len(part) > 13 || strings.Contains(part, "\x00") {
			return nil, false
		}
		if part != "" {
			l = append(l, part)
		}
	}
	return l, len(l) <= 16
}

// clean is a path as it is written with no more bytes 47 than it needs.
func clean(p string) string {
	l, _ := names(p)
	return "/" + strings.Join(l, "/")
}

// told is an entry as it stands in an archive.
type told struct {
	kind   byte
	path   string
	size   uint64
	of     int
	pieces []piece
}

// entriesTold are the entries of what may be an archive, and whether it is one (right or not).
func entriesTold(b []byte) (l []told, ok bool) {
	defer func() {
		if recover() != nil { // it ends too soon
			l, ok = nil, false
		}
	}()
	if string(b[:4]) != "CUNA" {
		return nil, false
	}
	at := 4
	number := func(n int) uint64 {
		var all [8]byte
		copy(all[:], b[at:at+n])
		at += n
		return binary.LittleEndian.Uint64(all[:])
	}
	for b[at] != 0 {
		x := told{kind: b[at]}
		at++
		n := int(number(2))
		x.path = string(b[at : at+n])
		at += n
		switch x.kind {
		case 1:
		case 2:
			x.size = number(8)
			for b[at] == 1 {
				at++
				s := piece{at: number(8)}
				n := int(number(2))
				s.squeezed = b[at : at+n]
				at += n
				x.pieces = append(x.pieces, s)
			}
			if b[at] != 0 {
				return nil, false
			}
			at++
		case 3:
			x.of = int(number(2))
		default:
			return nil, false
		}
		l = append(l, x)
	}
	return l, at+1 == len(b)
}

// rightTold tells whether entries are those of an archive that is right.
func rightTold(l []told) bool {
	for k, x := range l {
		parent := x.path[:max(0, strings.LastIndex(x.path, "/"))]
		found := parent == ""
		for _, y := range l[:k] {
			if y.path == x.path {
				return false
			}
			found = found || y.kind == 1 && y.path == parent
		}
		if _, right := names(x.path); !right || x.path == "/" || clean(x.path) != x.path || !found {
			return false
		}
		if x.kind == 3 && (x.of >= k || l[x.of].kind != 2) {
			return false
		}
		if x.size > 2147483647 || !piecesTold(x) {
			return false
		}
	}
	return len(l) <= 4096
}

// piecesTold tells whether a file's stretches are right.
func piecesTold(x told) bool {
	for k, s := range x.pieces {
		b, e := squeeze.Open(s.squeezed, 1024)
		again, _ := squeeze.Squeeze(b)
		switch {
		case e != api.OK, len(b) == 0, !bytes.Equal(again, s.squeezed):
			return false
		case len(bytes.Trim(b, "\x00")) == 0:
			return false
		case s.at%1024 != 0, k > 0 && s.at <= x.pieces[k-1].at:
			return false
		case s.at > 1<<40, s.at+uint64(len(b)) > x.size:
			return false
		case len(b) < 1024 && s.at+uint64(len(b)) != x.size:
			return false
		}
	}
	return true
}

// readTold are the entries of an archive, and the error that List is to answer.
func readTold(b []byte) ([]told, api.Errno) {
	if len(b) > 262144 {
		return nil, api.ErrLong
	}
	n := len(b) - 4
	if len(b) < 9 || crc32.ChecksumIEEE(b[:n]) != binary.LittleEndian.Uint32(b[n:]) {
		return nil, api.ErrTorn
	}
	l, ok := entriesTold(b[:n])
	if !ok || !rightTold(l) {
		return nil, api.ErrEntry
	}
	return l, api.OK
}

// listTold is what List is to answer.
func listTold(b []byte) ([]Item, api.Errno) {
	l, e := readTold(b)
	var items []Item
	for _, x := range l {
		items = append(items, Item{int(x.kind), x.path, int64(x.size), x.of})
	}
	return items, e
}

// packTold is a directory's archive, and how many entries it has.
func packTold(f *fs.FS, p string, text func(p string) string) ([]byte, int) {
	a := begun()
	count := 0
	first := map[int]int{}
	base := strings.TrimSuffix(clean(p), "/")
	for full, s := range f.Walk(p) {
		at := full[len(base):]
		k, again := first[s.Inode]
		switch {
		case s.Kind == 2:
			a = a.dir(at)
		case again:
			a = a.name(at, k)
		default:
			first[s.Inode] = count
			var l []piece
			all := text(full)
			for from := 0; from < len(all); from += 1024 {
				if one := all[from:min(from+1024, len(all))]; strings.Trim(one, "\x00") != "" {
					l = append(l, stretched(uint64(from), one))
				}
			}
			a = a.file(at, uint64(s.Size), l...)
		}
		count++
	}
	return a.end(), count
}

// unpackTold makes, call by call, what Unpack is to make, and is what it is to answer.
func unpackTold(f *fs.FS, p string, b []byte) api.Errno {
	l, e := readTold(b)
	if e != api.OK {
		return e
	}
	if _, e := f.List(p); e != api.OK {
		return e
	}
	base := strings.TrimSuffix(clean(p), "/")
	for _, x := range l {
		switch x.kind {
		case 1:
			e = f.Mkdir(base + x.path)
		case 2:
			e = fileTold(f, base+x.path, x)
		case 3:
			e = f.Link(base+l[x.of].path, base+x.path)
		}
		if e != api.OK {
			return e
		}
	}
	return api.OK
}

// fileTold makes a file.
func fileTold(f *fs.FS, p string, x told) api.Errno {
	h, e := f.Open(p, 14)
	if e != api.OK {
		return e
	}
	for _, s := range x.pieces {
		b, _ := squeeze.Open(s.squeezed, 1024)
		f.Seek(h, int64(s.at), 0)
		if _, e := f.Write(h, b); e != api.OK {
			f.Close(h)
			return e
		}
	}
	if e := f.Close(h); e != api.OK {
		return e
	}
	return f.Truncate(p, int64(x.size))
}
