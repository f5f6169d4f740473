package squeeze

import (
	"iter"
	"slices"
)

const (
	copyMark = 128 // the least first byte of a copy
	maxRun   = 128 // bytes of a run
	minCopy  = 3   // bytes of a copy
	maxCopy  = 130
	copySize = 3 // bytes that a copy takes
)

// item is a run, or a copy, which has no bytes of its own.
type item struct {
	count    int // bytes that come out of it
	distance int // of a copy
	run      []byte
}

// items hands over the items that bytes are, each with true, and in the place of one that ends too soon nothing with false.
func items(b []byte) iter.Seq2[item, bool] {
	return func(yield func(item, bool) bool) {
		for len(b) > 0 {
			one, size := first(b)
			if size > len(b) {
				yield(item{}, false)
				return
			}
			if !yield(one, true) {
				return
			}
			b = b[size:]
		}
	}
}

// first is the item that bytes begin with, and how many bytes it takes: if there are not so many, it is nothing.
func first(b []byte) (item, int) {
	if b[0] >= copyMark {
		if len(b) < copySize {
			return item{}, copySize
		}
		return item{count: int(b[0]) - copyMark + minCopy, distance: int(b[1]) | int(b[2])<<8}, copySize
	}
	size := 2 + int(b[0])
	if len(b) < size {
		return item{}, size
	}
	return item{count: size - 1, run: b[1:size]}, size
}

// fits tells whether an item may stand where so many bytes have come out.
func (i item) fits(out int) bool {
	return i.run != nil || i.distance >= 1 && i.distance <= out
}

// put puts what comes out of an item behind what has come out.
func (i item) put(out []byte) []byte {
	if i.run != nil {
		return append(out, i.run...)
	}
	for range i.count {
		out = append(out, out[len(out)-i.distance]) // one by one, as a copy may take what it has put itself
	}
	return out
}

// appendRuns puts runs of bytes that stand for themselves behind squeezed bytes.
func appendRuns(squeezed, own []byte) []byte {
	for run := range slices.Chunk(own, maxRun) {
		squeezed = append(squeezed, byte(len(run)-1))
		squeezed = append(squeezed, run...)
	}
	return squeezed
}

// appendCopy puts a copy behind squeezed bytes.
func appendCopy(squeezed []byte, c item) []byte {
	return append(squeezed, byte(copyMark+c.count-minCopy), byte(c.distance), byte(c.distance>>8))
}
