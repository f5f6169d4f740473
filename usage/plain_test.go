package usage

import (
	"slices"

	"cuneiform/api"
	"cuneiform/fs"
)

// What the document says, told plainly: directories are gone through by List and Stat, and all that is below is put into rows first.

// row is all that is below a directory, as it is to be told: of each how many names its path has from there on, and what Stat tells.
type row struct {
	depths []int
	stats  []api.Stat
}

// rowOf is what is below a directory; ahead stands nothing, or a path without a byte 47 at its end.
func rowOf(f *fs.FS, ahead string, depth int) row {
	var r row
	l, _ := f.List(ahead + "/")
	for _, x := range l {
		r = r.with(oneOf(f, ahead+"/"+x.Name, depth+1))
	}
	return r
}

// oneOf is something, and all below it.
func oneOf(f *fs.FS, p string, depth int) row {
	s, _ := f.Stat(p)
	r := row{[]int{depth}, []api.Stat{s}}
	if s.Kind == 2 {
		r = r.with(rowOf(f, p, depth))
	}
	return r
}

// with is a row with another one behind it.
func (r row) with(o row) row {
	return row{slices.Concat(r.depths, o.depths), slices.Concat(r.stats, o.stats)}
}

// sum is a row, added up; known are inodes of files that were counted, and those of this row are put behind them.
func (r row) sum(known *[]int) Sum {
	var s Sum
	for k, x := range r.stats {
		s.Names++
		s.Deepest = max(s.Deepest, r.depths[k])
		switch {
		case x.Kind == 2:
			s.Dirs++
			s.Pages += x.Pages
		case !slices.Contains(*known, x.Inode):
			*known = append(*known, x.Inode)
			s.Files++
			s.Bytes += x.Size
			s.Pages += x.Pages
		}
	}
	return s
}

// ofTold is what Of is to answer of a directory; p as ahead of rowOf.
func ofTold(f *fs.FS, p string) Sum {
	var known []int
	return rowOf(f, p, 0).sum(&known)
}

// sharesTold is what Shares is to answer of a directory; p as ahead of rowOf.
func sharesTold(f *fs.FS, p string) []Share {
	var l []Share
	var known []int
	entries, _ := f.List(p + "/")
	for _, x := range entries {
		l = append(l, Share{x.Name, oneOf(f, p+"/"+x.Name, 1).sum(&known)})
	}
	return l
}

// mostTold is what Most is to answer.
func mostTold(l []Share, n int) []Share {
	var most []Share
	rest := slices.Clone(l)
	for len(rest) > 0 && len(most) < n {
		first := 0
		for k := range rest {
			if rest[k].Sum.Bytes > rest[first].Sum.Bytes {
				first = k
			}
		}
		most = append(most, rest[first])
		rest = slices.Delete(rest, first, first+1)
	}
	return most
}
