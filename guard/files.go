package guard

import (
	"cuneiform/api"
	"cuneiform/file"
	"cuneiform/fs"
	"iter"
)

// read are a file's bytes.
func read(f *fs.FS, p string) ([]byte, api.Errno) {
	s, e := f.Stat(p)
	switch {
	case e != api.OK:
		return nil, e
	case s.Kind == api.IDir:
		return nil, api.ErrIsDir
	case s.Size > mostFile:
		return nil, api.ErrLong
	}
	b := make([]byte, s.Size)
	e = file.With(f, p, fs.Reads, func(h int) api.Errno {
		return file.Pieces(f, h, func(at int64, piece []byte) api.Errno {
			copy(b[at:], piece) // pieces that are not handed on are of bytes 0, as all are here at first
			return api.OK
		})
	})
	if e != api.OK {
		return nil, e
	}
	return b, api.OK
}

// write opens a file with these flags, and writes pieces at their places. The first error ends it.
func write(f *fs.FS, p string, flags int, l iter.Seq2[int, []byte]) api.Errno {
	return file.With(f, p, flags, func(h int) api.Errno {
		for at, piece := range l {
			if e := file.Put(f, h, int64(at), piece); e != api.OK {
				return e
			}
		}
		return api.OK
	})
}
