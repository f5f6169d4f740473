package guard

import (
	"bytes"
	"cuneiform/api"
	"cuneiform/ecc"
	"cuneiform/fs"
	"iter"
)

// What a guard begins with; behind it stand the codes.
const (
	mark       = "ECC1"
	blockBytes = 2 // of a block's size
	sizeBytes  = 8 // of the file's
	headBytes  = len(mark) + blockBytes + sizeBytes
)

// head is what a guard begins with.
func head(n, size int) []byte {
	b := number([]byte(mark), n, blockBytes)
	return number(b, size, sizeBytes)
}

// number puts a number of so many bytes behind others, the least byte first.
func number(b []byte, n, size int) []byte {
	for range size {
		b = append(b, byte(n))
		n >>= 8
	}
	return b
}

// parts are the size of a guard's blocks and its codes, if the bytes may be a guard of a file of that size. Whether the codes are just as many as they must be is not asked here.
func parts(guard []byte, size int) (n int, codes []byte, ok bool) {
	if len(guard) < headBytes {
		return 0, nil, false
	}
	n = int(guard[len(mark)]) | int(guard[len(mark)+1])<<8
	if !blockSize(n) || !bytes.Equal(guard[:headBytes], head(n, size)) {
		return 0, nil, false
	}
	return n, guard[headBytes:], true
}

// examined is a file that was looked at by its guard.
type examined struct {
	was, mended []byte
	n           int // the size of the blocks
	found       ecc.Fixed
}

// examine looks at a file by its guard.
func examine(f *fs.FS, p, q string) (examined, api.Errno) {
	b, e := read(f, p)
	if e != api.OK {
		return examined{}, e
	}
	guard, e := read(f, q)
	if e != api.OK {
		return examined{}, e
	}
	n, codes, ok := parts(guard, len(b))
	if !ok {
		return examined{}, api.ErrEntry
	}
	mended, found, e := ecc.MendAll(b, n, codes)
	if e != api.OK {
		// The sizes are right, so it is the codes that are not just as many.
		return examined{}, api.ErrEntry
	}
	return examined{was: b, mended: mended, n: n, found: found}, api.OK
}

// turned are the blocks that had a bit turned, as they are mended, with their places. (What was lost is as it was.)
func (x examined) turned() iter.Seq2[int, []byte] {
	return func(yield func(int, []byte) bool) {
		for at, block := range pieces(x.mended, x.n) {
			if bytes.Equal(block, x.was[at:at+len(block)]) {
				continue
			}
			if !yield(at, block) {
				return
			}
		}
	}
}

// pieces are bytes cut into pieces of that size, but the last one of what is left, with their places.
func pieces(b []byte, size int) iter.Seq2[int, []byte] {
	return func(yield func(int, []byte) bool) {
		for at := 0; at < len(b); at += size {
			end := min(at+size, len(b))
			// What is put behind a piece is not to come into the next one.
			if !yield(at, b[at:end:end]) {
				return
			}
		}
	}
}
