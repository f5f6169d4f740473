package fs

import (
	"cuneiform/api"
	"cuneiform/node"
	"cuneiform/path"
	"iter"
	"slices"
)

// resolve is the inode that a path names.
func (f *FS) resolve(p string) (int, api.Errno) {
	names, e := path.Parse(p)
	if e != api.OK {
		return none, e
	}
	return f.t.Walk(names)
}

// List are a directory's entries.
func (f *FS) List(p string) ([]api.Entry, api.Errno) {
	if e := f.asks(); e != api.OK {
		return nil, e
	}
	n, e := f.resolve(p)
	if e != api.OK {
		return nil, e
	}
	dir, e := f.isDir(n)
	switch {
	case e != api.OK:
		return nil, e
	case !dir:
		return nil, api.ErrNotDir
	}
	var l []api.Entry
	for _, entry := range f.t.Entries(n) {
		l = append(l, entry)
	}
	return l, api.OK
}

// Stat is what is told of what a path names.
func (f *FS) Stat(p string) (api.Stat, api.Errno) {
	if e := f.asks(); e != api.OK {
		return api.Stat{}, e
	}
	n, e := f.resolve(p)
	if e != api.OK {
		return api.Stat{}, e
	}
	return f.stat(n)
}

// stat is what is told of an inode.
func (f *FS) stat(n int) (api.Stat, api.Errno) {
	i, e := f.t.Inode(n)
	if e != api.OK {
		return api.Stat{}, e
	}
	return api.Stat{
		Inode: n,
		Kind:  i.Kind,
		Links: i.Links,
		Size:  i.Size,
		Pages: node.Takes(f.t.Pool(), i),
	}, api.OK
}

// below are all that is below a directory that has these names: of each its names, and its inode, those of a directory right behind it. (Below what is no directory there is nothing.) None of the directories in seen is gone through.
func (f *FS) below(n int, names []string, seen map[int]struct{}) iter.Seq2[[]string, int] {
	return func(yield func([]string, int) bool) {
		// A tree has each directory once. But where somebody else writes to the chip, what is read need be no tree, and this ends all the same. Nor are there paths below so many names.
		if _, again := seen[n]; again || len(names) > api.MaxDepth {
			return
		}
		seen[n] = struct{}{}
		for _, entry := range f.t.Entries(n) {
			l := slices.Concat(names, []string{entry.Name})
			if !yield(l, entry.Inode) {
				return
			}
			for l, n := range f.below(entry.Inode, l, seen) {
				if !yield(l, n) {
					return
				}
			}
		}
	}
}

// found is what a walk hands over.
type found struct {
	path string
	stat api.Stat
}

// Walk are all that is below a directory, with their paths.
func (f *FS) Walk(p string) iter.Seq2[string, api.Stat] {
	// They are those of now: who is told of them may remove them one by one.
	l := f.walk(p)
	return func(yield func(string, api.Stat) bool) {
		for _, at := range l {
			if !yield(at.path, at.stat) {
				return
			}
		}
	}
}

// walk are all that is below what a path names.
func (f *FS) walk(p string) []found {
	var l []found
	if f.asks() != api.OK {
		return l
	}
	names, e := path.Parse(p)
	if e != api.OK {
		return l
	}
	n, e := f.t.Walk(names)
	if e != api.OK {
		return l
	}
	for names, n := range f.below(n, names, map[int]struct{}{}) {
		at, e := path.Join(names)
		if e != api.OK {
			// It lies deeper than a path leads.
			continue
		}
		if s, e := f.stat(n); e == api.OK {
			l = append(l, found{at, s})
		}
	}
	return l
}
