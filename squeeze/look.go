package squeeze

import (
	"iter"
	"slices"
)

const reach = 1 << 12 // the greatest distance that is looked for

// three is what is looked up: bytes that a copy has at least.
type three [minCopy]byte

// copies hands over the copies that are taken, in order, with the places where they are.
func copies(b []byte) iter.Seq2[int, item] {
	return func(yield func(int, item) bool) {
		rows := map[three][]int{} // where the bytes were met, rising
		met := 0                  // the places ahead of this one stand in rows
		for at := 0; at+minCopy <= len(b); {
			for ; met < at; met++ {
				key := three(b[met:])
				rows[key] = append(rows[key], met)
			}
			c := longest(b, at, rows[three(b[at:])])
			if c.count == 0 {
				at++
				continue
			}
			if !yield(at, c) {
				return
			}
			at += c.count
		}
	}
}

// longest is the longest copy that can be taken at a place, of several the one of the least distance; nothing, if there is none. The row has the places ahead where the same three bytes stand.
func longest(b []byte, at int, row []int) item {
	most := min(maxCopy, len(b)-at)
	var best item
	for _, from := range slices.Backward(row) {
		if at-from > reach || best.count == most {
			break
		}
		if n := alike(b, from, at, most); n > best.count {
			best = item{count: n, distance: at - from}
		}
	}
	return best
}

// alike is how many bytes, at most so many, are the same from two places on, of which from is the first.
func alike(b []byte, from, at, most int) int {
	n := 0
	for n < most && b[from+n] == b[at+n] {
		n++
	}
	return n
}
