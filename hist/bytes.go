package hist

import (
	"bytes"
	"cuneiform/api"
	"cuneiform/crc"
)

// What operations' bytes are made of.
const (
	mark        = "HIST" // the first ones
	countBytes  = 4      // of how many operations there are
	kindBytes   = 1
	pathBytes   = 1 // of a path's length
	numberBytes = 4 // of a handle, and of N
	offBytes    = 8
	lengthBytes = 2 // of how many bytes an operation has
	sumBytes    = 4
	leastBytes  = len(mark) + countBytes + sumBytes
	mostBytes   = 1 << 23
)

// Write are operations' bytes.
func Write(l []Op) ([]byte, api.Errno) {
	if len(l) > mostOps {
		return nil, api.ErrLong
	}
	b := number([]byte(mark), uint64(len(l)), countBytes)
	for _, o := range l {
		if !right(o) {
			return nil, api.ErrArg
		}
		b = put(b, o)
	}
	return number(b, uint64(crc.Sum(b)), sumBytes), api.OK
}

// put puts an operation behind bytes.
func put(b []byte, o Op) []byte {
	b = number(b, uint64(o.Kind), kindBytes)
	b = counted(b, []byte(o.Path), pathBytes)
	b = counted(b, []byte(o.To), pathBytes)
	b = number(b, uint64(o.Handle), numberBytes)
	b = number(b, uint64(o.N), numberBytes)
	b = number(b, uint64(o.Off), offBytes)
	return counted(b, o.Bytes, lengthBytes)
}

// counted puts bytes behind others, and ahead of them, in so many bytes, how many they are.
func counted(b, l []byte, size int) []byte {
	return append(number(b, uint64(len(l)), size), l...)
}

// number puts a number behind bytes, the least byte first. Of one below 0 this makes what it is with 2^32, or 2^64, more.
func number(b []byte, n uint64, size int) []byte {
	for range size {
		b = append(b, byte(n))
		n >>= 8
	}
	return b
}

// Read are the operations of bytes.
func Read(b []byte) ([]Op, api.Errno) {
	switch {
	case len(b) > mostBytes:
		return nil, api.ErrLong
	case len(b) < leastBytes:
		return nil, api.ErrTorn
	}
	ahead := b[:len(b)-sumBytes]
	if !bytes.Equal(number(nil, uint64(crc.Sum(ahead)), sumBytes), b[len(ahead):]) {
		return nil, api.ErrTorn
	}
	return read(ahead)
}

// read are the operations of bytes without their sum.
func read(b []byte) (l []Op, e api.Errno) {
	defer func() {
		why := recover()
		if why == nil {
			return
		}
		up, ok := why.(gaveUp)
		if !ok {
			panic(why) // it is not the reader's
		}
		l, e = nil, up.e
	}()
	r := reader{rest: b}
	return r.all(), api.OK
}

// reader takes what is read, from its beginning on. What is not right makes it give up, so that nobody who takes of it needs to ask.
type reader struct {
	rest []byte
}

// gaveUp is what a reader that gives up panics with.
type gaveUp struct {
	e api.Errno
}

// must gives up, if something is not so.
func must(ok bool) {
	if !ok {
		panic(gaveUp{api.ErrEntry})
	}
}

// all takes all operations, with what stands around them.
func (r *reader) all() []Op {
	must(string(r.take(len(mark))) == mark)
	count := r.number(countBytes)
	must(count <= mostOps)
	var l []Op
	for range count {
		l = append(l, r.op())
	}
	must(len(r.rest) == 0)
	return l
}

// op takes an operation.
func (r *reader) op() Op {
	var o Op
	o.Kind = int(r.number(kindBytes))
	o.Path = string(r.counted(pathBytes))
	o.To = string(r.counted(pathBytes))
	o.Handle = int(int32(r.number(numberBytes)))
	o.N = int(int32(r.number(numberBytes)))
	o.Off = int64(r.number(offBytes))
	o.Bytes = bytes.Clone(r.counted(lengthBytes))
	must(right(o))
	return o
}

// counted takes bytes, ahead of which stands in so many how many they are.
func (r *reader) counted(size int) []byte {
	return r.take(int(r.number(size)))
}

// number takes a number of so many bytes, the least byte first.
func (r *reader) number(size int) uint64 {
	n := uint64(0)
	for k, c := range r.take(size) {
		n |= uint64(c) << (8 * k)
	}
	return n
}

// take takes so many bytes.
func (r *reader) take(n int) []byte {
	must(n <= len(r.rest))
	b := r.rest[:n]
	r.rest = r.rest[n:]
	return b
}
