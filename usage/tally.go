package usage

import "cuneiform/api"

// tally are the inodes of the files that were counted.
type tally map[int]struct{}

// sum is what is told of one thing that lies so deep, added up. Of a file that was counted by another name there is just the name.
func (t tally) sum(s api.Stat, depth int) Sum {
	sum := Sum{Names: 1, Deepest: depth}
	if s.Kind == api.IDir {
		sum.Dirs = 1
		sum.Pages = s.Pages
		return sum
	}
	if _, again := t[s.Inode]; again {
		return sum
	}
	t[s.Inode] = struct{}{}
	sum.Files = 1
	sum.Bytes = s.Size
	sum.Pages = s.Pages
	return sum
}
