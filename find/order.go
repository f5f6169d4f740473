package find

import (
	"cmp"
	"cuneiform/api"
	"slices"
)

// The orders of what is found.
const (
	asWalked = 0
	byNames  = 1
	bySize   = 2
	byDepth  = 3
)

// found is a path that meets a wish.
type found struct {
	path  string
	names []string
	size  int64
}

// sizeOf is the size by which something is put in order.
func sizeOf(s api.Stat) int64 {
	if s.Kind == api.IDir {
		return 0
	}
	return s.Size
}

// compare tells which of two comes first in the wish's order: below 0, if the first one does; 0, if they are alike.
func (w Wish) compare(a, b found) int {
	switch w.Order {
	case byNames:
		// Not the paths as they stand: a byte below 47 in a name would come ahead of the name's end.
		return slices.Compare(a.names, b.names)
	case bySize:
		return cmp.Compare(b.size, a.size)
	case byDepth:
		return cmp.Compare(len(a.names), len(b.names))
	}
	return 0
}
