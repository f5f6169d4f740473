// Package file reads and writes what stands in files. It is no layer: those that carry files over share it.
package file

import (
	"cuneiform/api"
	"cuneiform/fs"
)

// Piece is how many bytes of a file are carried over at once: from each place on that is a multiple of it, the last ones as many as there are.
const Piece = api.MaxIO

// With opens a file, hands its handle on, and closes it, whatever was answered. The first error is answered.
func With(f *fs.FS, p string, flags int, use func(h int) api.Errno) api.Errno {
	h, e := f.Open(p, flags)
	if e != api.OK {
		return e
	}
	e = use(h)
	if shut := f.Close(h); e == api.OK {
		e = shut
	}
	return e
}

// Pieces hands on a file's pieces from a handle's place on, which is their beginning, in order. But those of bytes that are all 0 are left out. The first error ends it.
func Pieces(f *fs.FS, h int, take func(at int64, b []byte) api.Errno) api.Errno {
	for at := int64(0); ; at += Piece {
		b, e := f.Read(h, Piece)
		if e != api.OK || len(b) == 0 {
			return e
		}
		if Zero(b) {
			continue
		}
		if e = take(at, b); e != api.OK {
			return e
		}
	}
}

// Put writes a piece at its place.
func Put(f *fs.FS, h int, at int64, b []byte) api.Errno {
	if _, e := f.Seek(h, at, 0); e != api.OK {
		return e
	}
	_, e := f.Write(h, b)
	return e
}

// Zero tells whether all bytes are 0.
func Zero(b []byte) bool {
	for _, c := range b {
		if c != 0 {
			return false
		}
	}
	return true
}
