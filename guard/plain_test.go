package guard

import (
	"bytes"
	"encoding/binary"

	"cuneiform/api"
	"cuneiform/ecc"
	"cuneiform/fs"
)

// What the document says, told plainly, by the calls of fs one by one, and by those of ecc for one block.

// guardTold is a guard.
func guardTold(b []byte, n int) []byte {
	g := []byte{69, 67, 67, 49}
	g = binary.LittleEndian.AppendUint16(g, uint16(n))
	g = binary.LittleEndian.AppendUint64(g, uint64(len(b)))
	for from := 0; from < len(b); from += n {
		code, _ := ecc.Code(b[from:min(from+n, len(b))])
		g = binary.LittleEndian.AppendUint32(g, code)
	}
	return g
}

// fitsTold tells whether bytes are a guard that fits a file of so many bytes.
func fitsTold(g []byte, size int) bool {
	if len(g) < 14 || string(g[:4]) != "ECC1" {
		return false
	}
	n := int(binary.LittleEndian.Uint16(g[4:]))
	if n < 16 || n > 1024 || binary.LittleEndian.Uint64(g[6:]) != uint64(size) {
		return false
	}
	codes := size / n
	if size%n > 0 {
		codes++
	}
	return len(g) == 14+4*codes
}

// block is one that had a bit turned, and its place.
type block struct {
	at    int
	bytes []byte
}

// judgedTold is what a guard that fits tells of a file's bytes, and the blocks that had a bit turned, as they are mended.
func judgedTold(b, g []byte) (ecc.Fixed, []block) {
	var x ecc.Fixed
	var l []block
	n := int(binary.LittleEndian.Uint16(g[4:]))
	for k, codes := 0, g[14:]; len(codes) > 0; k, codes = k+n, codes[4:] {
		mended, bit, e := ecc.Mend(b[k:min(k+n, len(b))], binary.LittleEndian.Uint32(codes))
		switch {
		case e != api.OK:
			x.Lost++
		case bit == -1:
			x.Whole++
		case bit == -2:
			x.Code++
		default:
			x.Turned++
			l = append(l, block{k, mended})
		}
	}
	return x, l
}

// readTold is how all three calls read a file.
func readTold(f *fs.FS, p string) ([]byte, api.Errno) {
	s, e := f.Stat(p)
	if e != api.OK {
		return nil, e
	}
	if s.Kind == 2 {
		return nil, 63
	}
	if s.Size > 65536 {
		return nil, 2
	}
	h, e := f.Open(p, 1)
	if e != api.OK {
		return nil, e
	}
	var all []byte
	for {
		b, e := f.Read(h, 1000)
		if e != api.OK {
			f.Close(h)
			return nil, e
		}
		if len(b) == 0 {
			return all, f.Close(h)
		}
		all = append(all, b...)
	}
}

// protectTold is what Protect is to do.
func protectTold(f *fs.FS, p, q string, n int) api.Errno {
	if n < 16 || n > 1024 {
		return 1
	}
	b, e := readTold(f, p)
	if e != api.OK {
		return e
	}
	h, e := f.Open(q, 22)
	if e != api.OK {
		return e
	}
	g := bytes.NewBuffer(guardTold(b, n))
	for g.Len() > 0 && e == api.OK {
		_, e = f.Write(h, g.Next(1024))
	}
	if shut := f.Close(h); e == api.OK {
		e = shut
	}
	return e
}

// examineTold is what Check is to answer, and the blocks that Mend is to write.
func examineTold(f *fs.FS, p, q string) (ecc.Fixed, []block, api.Errno) {
	b, e := readTold(f, p)
	if e != api.OK {
		return ecc.Fixed{}, nil, e
	}
	g, e := readTold(f, q)
	if e != api.OK {
		return ecc.Fixed{}, nil, e
	}
	if !fitsTold(g, len(b)) {
		return ecc.Fixed{}, nil, 50
	}
	x, l := judgedTold(b, g)
	return x, l, api.OK
}

// mendTold is what Mend is to do.
func mendTold(f *fs.FS, p, q string) (ecc.Fixed, api.Errno) {
	x, l, e := examineTold(f, p, q)
	if e != api.OK || len(l) == 0 {
		return x, e
	}
	h, e := f.Open(p, 2)
	if e != api.OK {
		return ecc.Fixed{}, e
	}
	for _, b := range l {
		if _, e = f.Seek(h, int64(b.at), 0); e != api.OK {
			break
		}
		if _, e = f.Write(h, b.bytes); e != api.OK {
			break
		}
	}
	if shut := f.Close(h); e == api.OK {
		e = shut
	}
	if e != api.OK {
		return ecc.Fixed{}, e
	}
	return x, api.OK
}
