package hist

import (
	"cuneiform/api"
	"cuneiform/fs"
	"math"
)

// Kinds of operations.
const (
	anOpen = 1 + iota
	aClose
	aRead
	aWrite
	aSeek
	aTruncate
	aMkdir
	aRmdir
	aLink
	anUnlink
	aRename
	aStat
	anFsync
	aSync
)

// right tells whether an operation is right.
func right(o Op) bool {
	within := func(n int) bool { return n >= math.MinInt32 && n <= math.MaxInt32 }
	switch {
	case o.Kind < anOpen || o.Kind > aSync:
		return false
	case len(o.Path) > api.MaxPath || len(o.To) > api.MaxPath:
		return false
	case len(o.Bytes) > api.MaxIO:
		return false
	}
	return within(o.Handle) && within(o.N)
}

// Do does an operation.
func Do(f *fs.FS, o Op) Answer {
	if !right(o) {
		return Answer{Err: api.ErrArg}
	}
	switch o.Kind {
	case anOpen, aTruncate, aStat:
		return doFile(f, o)
	case aClose, aRead, aWrite, aSeek, anFsync:
		return doHandle(f, o)
	case aSync:
		return Answer{Err: f.Sync()}
	}
	return doName(f, o)
}

// doFile does what is done with what a path names.
func doFile(f *fs.FS, o Op) Answer {
	switch o.Kind {
	case anOpen:
		h, e := f.Open(o.Path, o.N)
		return Answer{Err: e, N: int64(h)}
	case aTruncate:
		return Answer{Err: f.Truncate(o.Path, o.Off)}
	}
	s, e := f.Stat(o.Path)
	return Answer{Err: e, N: s.Size}
}

// doHandle does what is done at a handle.
func doHandle(f *fs.FS, o Op) Answer {
	switch o.Kind {
	case aClose:
		return Answer{Err: f.Close(o.Handle)}
	case aRead:
		b, e := f.Read(o.Handle, o.N)
		return Answer{Err: e, Bytes: b}
	case aWrite:
		n, e := f.Write(o.Handle, o.Bytes)
		return Answer{Err: e, N: int64(n)}
	case aSeek:
		at, e := f.Seek(o.Handle, o.Off, o.N)
		return Answer{Err: e, N: at}
	}
	return Answer{Err: f.Fsync(o.Handle)}
}

// doName does what makes and removes names.
func doName(f *fs.FS, o Op) Answer {
	switch o.Kind {
	case aMkdir:
		return Answer{Err: f.Mkdir(o.Path)}
	case aRmdir:
		return Answer{Err: f.Rmdir(o.Path)}
	case aLink:
		return Answer{Err: f.Link(o.Path, o.To)}
	case anUnlink:
		return Answer{Err: f.Unlink(o.Path)}
	}
	return Answer{Err: f.Rename(o.Path, o.To)}
}
