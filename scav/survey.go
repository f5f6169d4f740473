package scav

import (
	"bytes"
	"cuneiform/api"
	"cuneiform/dirs"
	"cuneiform/ftl"
	"cuneiform/inode"
	"cuneiform/room"
)

const (
	none        = 0              // the number of no page: such a pointer leads nowhere
	firstPage   = 1              // of the table
	pointerSize = 2              // bytes of a pointer in a page of pointers
	mostOrphans = api.MaxHandles // a handle was open on each of them
)

// survey is a look at all that a translation holds.
type survey struct {
	f       *ftl.FTL
	size    int
	lay     room.Layout
	inodes  []api.Inode // from the number 1 on, as they stand in the table
	named   []int       // how often each of them is named
	owners  map[int]int // of each page that is named the inode to which it belongs
	files   int
	dirs    int
	orphans []int // inodes that nothing names
}

// look looks at a translation of pages of a size, and tells whether it holds a tree.
func look(f *ftl.FTL, size int) (*survey, bool) {
	lay, e := room.Plan(size, f.Capacity())
	if e != api.OK {
		return nil, false
	}
	text := f.Text()
	if !bytes.Equal(text, Text(lay, len(text))) || f.Used() > lay.Table+lay.Pages+1 {
		return nil, false
	}
	s := &survey{f: f, size: size, lay: lay, owners: map[int]int{}}
	return s, s.readTable() && s.reach() && s.tally()
}

// report tells what was found.
func (s *survey) report() Report {
	return Report{Files: s.files, Dirs: s.dirs, Pages: len(s.owners), Orphans: len(s.orphans)}
}

// readTable reads all inodes, and tells whether they could be read.
func (s *survey) readTable() bool {
	s.inodes = make([]api.Inode, 1, 1+s.lay.Inodes) // there is none of the number 0
	for page := range s.lay.Table {
		b, e := s.f.Read(uint32(firstPage + page))
		if e == api.ErrNoEntry {
			b, e = make([]byte, s.size), api.OK
		}
		if e != api.OK {
			return false
		}
		for k := range inode.PerPage(s.size) {
			i, e := inode.Get(b, k)
			if e != api.OK {
				return false
			}
			s.inodes = append(s.inodes, i)
		}
	}
	s.named = make([]int, len(s.inodes))
	return true
}

// reach goes through all that is reached from the root, and tells whether it is sound.
func (s *survey) reach() bool {
	if s.inodes[root].Kind != api.IDir {
		return false
	}
	s.named[root]++ // as if it were named once: so no entry may name it, and one link is right
	row, sound := []int{root}, true
walk:
	for k := 0; k < len(row); k++ {
		b, ok := s.dirBytes(row[k])
		if !ok {
			sound = false
			break walk
		}
		for _, entry := range dirs.All(b) {
			n := entry.Inode
			if !s.name(n) {
				sound = false
				break walk
			}
			if s.inodes[n].Kind == api.IDir {
				row = append(row, n)
			}
		}
	}
	return sound
}

// name counts that an entry names an inode, and tells whether it may. A file's pages are looked at when it is named first, a directory's when its turn comes.
func (s *survey) name(n int) bool {
	if n >= len(s.inodes) {
		return false
	}
	s.named[n]++
	first := s.named[n] == 1
	switch s.inodes[n].Kind {
	case api.IFile:
		return !first || s.sound(n, func([]byte) {})
	case api.IDir:
		return first
	}
	return false
}

// dirBytes are a directory's bytes. It tells whether they are right, and all there.
func (s *survey) dirBytes(n int) ([]byte, bool) {
	var b []byte
	sound := s.sound(n, func(part []byte) { b = append(b, part...) })
	return b, sound && int64(len(b)) == s.inodes[n].Size && dirs.Check(b) == api.OK
}

// sound tells whether an inode is sound. What stands below its size is handed to take, page by page.
func (s *survey) sound(n int, take func([]byte)) bool {
	i := s.inodes[n]
	if i.Size > inode.Most(s.size) {
		return false
	}
	visit := func(k int, b []byte) bool {
		left := i.Size - int64(k)*int64(s.size)
		if left <= 0 {
			return false
		}
		end := int(min(left, int64(s.size)))
		take(b[:end])
		return zero(b[end:])
	}
	for _, at := range s.roots(i) {
		if at.page != none && !s.walk(n, at, visit) {
			return false
		}
	}
	return true
}

// zero tells whether all bytes are 0.
func zero(b []byte) bool {
	for _, x := range b {
		if x != 0 {
			return false
		}
	}
	return true
}

// spot is where a pointer leads.
type spot struct {
	page   int // the page that it names
	levels int // of pointers: 0, if that page holds bytes
	first  int // the first of the file's pages that it is or leads to
}

// pointers is how many pointers a page has.
func (s *survey) pointers() int {
	return s.size / pointerSize
}

// roots are where an inode's pointers lead, in the order of the file's pages.
func (s *survey) roots(i api.Inode) []spot {
	var l []spot
	for n, page := range i.Direct {
		l = append(l, spot{page, 0, n})
	}
	single := spot{i.Single, 1, len(i.Direct)}
	double := spot{i.Double, 2, single.first + s.pointers()}
	return append(l, single, double)
}

// walk goes through a page that an inode's pointer names, and all that it leads to, and tells whether that is sound. The file's pages are handed to visit.
func (s *survey) walk(n int, at spot, visit func(k int, b []byte) bool) bool {
	b, ok := s.own(n, at.page)
	if !ok || at.levels == 0 {
		return ok && visit(at.first, b)
	}
	each := 1 // how many of the file's pages a pointer of this page leads to
	for range at.levels - 1 {
		each *= s.pointers()
	}
	points := false
	for k, to := range inode.Pointers(b) {
		points = true
		if !s.walk(n, spot{to, at.levels - 1, at.first + k*each}, visit) {
			return false
		}
	}
	return points
}

// own are the bytes of a page that belongs to an inode from now on. It tells whether it may: it is there, and nobody else's.
func (s *survey) own(n, page int) ([]byte, bool) {
	_, taken := s.owners[page]
	if taken || page < s.lay.First || page >= s.lay.First+s.lay.Pages {
		return nil, false
	}
	b, e := s.f.Read(uint32(page))
	if e != api.OK {
		return nil, false
	}
	s.owners[page] = n
	return b, true
}

// tally counts what there is, and tells whether each inode is named as often as its links say. Of an orphan they say that nothing names it.
func (s *survey) tally() bool {
	for n, i := range s.inodes {
		switch {
		case s.named[n] != i.Links:
			return false
		case i.Kind == api.IFree:
		case s.named[n] == 0:
			s.orphans = append(s.orphans, n)
		case i.Kind == api.IDir:
			s.dirs++
		default:
			s.files++
		}
	}
	return len(s.orphans) <= mostOrphans
}
