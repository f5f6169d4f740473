// Package below tells what is below a directory of a file system. It is no layer: those that go through directories share it.
package below

import (
	"cuneiform/api"
	"cuneiform/fs"
	"cuneiform/path"
	"iter"
	"slices"
	"strings"
)

// Dir is a directory of a file system, and what was below it when it was looked at.
type Dir struct {
	files *fs.FS
	base  string // its path, as it stands ahead of those below it: nothing of the root
	all   []entry
}

// entry is something below a directory, with its path from there on.
type entry struct {
	at   string
	stat api.Stat
}

// Of is a directory, with what is below it now.
func Of(f *fs.FS, p string) (*Dir, api.Errno) {
	if _, e := f.List(p); e != api.OK {
		return nil, e
	}
	base, e := baseOf(p)
	if e != api.OK {
		return nil, e
	}
	d := &Dir{files: f, base: base}
	for full, s := range f.Walk(p) {
		d.all = append(d.all, entry{strings.TrimPrefix(full, base), s})
	}
	return d, api.OK
}

// baseOf is what stands ahead of the paths below a directory.
func baseOf(p string) (string, api.Errno) {
	names, e := path.Parse(p)
	if e != api.OK || len(names) == 0 {
		return "", e
	}
	return path.Join(names)
}

// Files is the file system that the directory is of.
func (d *Dir) Files() *fs.FS {
	return d.files
}

// Path is the whole path of what is, or would be, below the directory by that path. (It may be longer than a path can be: then the call that it is for refuses it.)
func (d *Dir) Path(at string) string {
	return d.base + at
}

// All are the paths of what is below, without the directory's own ahead of them, in order.
func (d *Dir) All() iter.Seq2[string, api.Stat] {
	return handed(slices.All(d.all))
}

// Back are the same, from the last one on.
func (d *Dir) Back() iter.Seq2[string, api.Stat] {
	return handed(slices.Backward(d.all))
}

// handed hands over what entries tell.
func handed(l iter.Seq2[int, entry]) iter.Seq2[string, api.Stat] {
	return func(yield func(string, api.Stat) bool) {
		for _, x := range l {
			if !yield(x.at, x.stat) {
				return
			}
		}
	}
}
