package hist

import (
	"encoding/binary"
	"hash/crc32"

	"cuneiform/api"
	"cuneiform/fs"
)

// What the document says, told plainly: by a row of calls, by bytes at their places, by rows of what was done.

// rightTold tells whether an operation is right.
func rightTold(o Op) bool {
	fits := func(n int) bool { return int(int32(n)) == n }
	return 1 <= o.Kind && o.Kind <= 14 && len(o.Path) < 256 && len(o.To) < 256 && len(o.Bytes) < 1025 && fits(o.Handle) && fits(o.N)
}

// callsTold are what operations of each kind do.
var callsTold = []func(f *fs.FS, o Op) (n int64, b []byte, e api.Errno){
	1: func(f *fs.FS, o Op) (int64, []byte, api.Errno) { h, e := f.Open(o.Path, o.N); return int64(h), nil, e },
	2: func(f *fs.FS, o Op) (int64, []byte, api.Errno) { return 0, nil, f.Close(o.Handle) },
	3: func(f *fs.FS, o Op) (int64, []byte, api.Errno) { b, e := f.Read(o.Handle, o.N); return 0, b, e },
	4: func(f *fs.FS, o Op) (int64, []byte, api.Errno) {
		n, e := f.Write(o.Handle, o.Bytes)
		return int64(n), nil, e
	},
	5: func(f *fs.FS, o Op) (int64, []byte, api.Errno) {
		at, e := f.Seek(o.Handle, o.Off, o.N)
		return at, nil, e
	},
	6:  func(f *fs.FS, o Op) (int64, []byte, api.Errno) { return 0, nil, f.Truncate(o.Path, o.Off) },
	7:  func(f *fs.FS, o Op) (int64, []byte, api.Errno) { return 0, nil, f.Mkdir(o.Path) },
	8:  func(f *fs.FS, o Op) (int64, []byte, api.Errno) { return 0, nil, f.Rmdir(o.Path) },
	9:  func(f *fs.FS, o Op) (int64, []byte, api.Errno) { return 0, nil, f.Link(o.Path, o.To) },
	10: func(f *fs.FS, o Op) (int64, []byte, api.Errno) { return 0, nil, f.Unlink(o.Path) },
	11: func(f *fs.FS, o Op) (int64, []byte, api.Errno) { return 0, nil, f.Rename(o.Path, o.To) },
	12: func(f *fs.FS, o Op) (int64, []byte, api.Errno) { s, e := f.Stat(o.Path); return s.Size, nil, e },
	13: func(f *fs.FS, o Op) (int64, []byte, api.Errno) { return 0, nil, f.Fsync(o.Handle) },
	14: func(f *fs.FS, o Op) (int64, []byte, api.Errno) { return 0, nil, f.Sync() },
}

// doTold is what Do is to do, and to answer.
func doTold(f *fs.FS, o Op) Answer {
	if !rightTold(o) {
		return Answer{Err: 1}
	}
	n, b, e := callsTold[o.Kind](f, o)
	return Answer{e, n, b}
}

// opTold are the bytes of an operation, right or not.
func opTold(o Op) []byte {
	little := binary.LittleEndian
	b := []byte{byte(o.Kind), byte(len(o.Path))}
	b = append(append(b, o.Path...), byte(len(o.To)))
	b = append(b, o.To...)
	b = little.AppendUint32(b, uint32(int32(o.Handle)))
	b = little.AppendUint32(b, uint32(int32(o.N)))
	b = little.AppendUint64(b, uint64(o.Off))
	return append(little.AppendUint16(b, uint16(len(o.Bytes))), o.Bytes...)
}

// headTold is what stands ahead of so many operations.
func headTold(n int) []byte {
	return binary.LittleEndian.AppendUint32([]byte{72, 73, 83, 84}, uint32(n))
}

// sealed are bytes with their sum behind.
func sealed(l ...[]byte) []byte {
	var b []byte
	for _, part := range l {
		b = append(b, part...)
	}
	return binary.LittleEndian.AppendUint32(b, crc32.ChecksumIEEE(b))
}

// bytesTold are operations' bytes, as if they were right.
func bytesTold(l []Op) []byte {
	all := [][]byte{headTold(len(l))}
	for _, o := range l {
		all = append(all, opTold(o))
	}
	return sealed(all...)
}

// writeTold is what Write is to answer.
func writeTold(l []Op) ([]byte, api.Errno) {
	if len(l) > 4096 {
		return nil, 2
	}
	for _, o := range l {
		if !rightTold(o) {
			return nil, 1
		}
	}
	return bytesTold(l), 0
}

// readTold is what Read is to answer. It tries whether what it finds is written as these bytes again.
func readTold(b []byte) ([]Op, api.Errno) {
	little := binary.LittleEndian
	if len(b) > 8388608 {
		return nil, 2
	}
	n := len(b) - 4
	if len(b) < 12 || crc32.ChecksumIEEE(b[:n]) != little.Uint32(b[n:]) {
		return nil, 21
	}
	var l []Op
	for at := 8; at < n && len(l) <= 4096; {
		// With bytes 0 behind, nothing ends too soon: what is not there is told by the bytes that are written.
		all := append(append([]byte{}, b[at:min(at+2000, n)]...), make([]byte, 2000)...)
		var o Op
		o.Kind = int(all[0])
		path := 2 + int(all[1])
		o.Path = string(all[2:path])
		to := path + 1 + int(all[path])
		o.To = string(all[path+1 : to])
		o.Handle = int(int32(little.Uint32(all[to:])))
		o.N = int(int32(little.Uint32(all[to+4:])))
		o.Off = int64(little.Uint64(all[to+8:]))
		end := to + 18 + int(little.Uint16(all[to+16:]))
		if end > len(all) {
			return nil, 50
		}
		o.Bytes = all[to+18 : end : end]
		l = append(l, o)
		at += end
	}
	if again, e := writeTold(l); e != 0 || string(again) != string(b) {
		return nil, 50
	}
	return l, 0
}
