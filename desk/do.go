package desk

import (
	"cuneiform/api"
	"cuneiform/fs"
	"cuneiform/nand"
	"slices"
	"strconv"
	"strings"
)

const done = "ok"

// answer is what a line answers: an error's number, or, where there is no error, these words.
func answer(e api.Errno, words ...string) string {
	if e != api.OK {
		return answer(api.OK, "error", strconv.Itoa(int(e)))
	}
	return strings.Join(words, " ")
}

// lacks is ErrNil, if the desk has not what a line needs.
func (d *Desk) lacks(needs int) api.Errno {
	if needs == aChip && d.chip == nil || needs == files && d.files == nil {
		return api.ErrNil
	}
	return api.OK
}

// do does what a line asks for, and answers it.
func (d *Desk) do(o order) string {
	switch {
	case o.needs != files:
		return d.doChip(o)
	case len(o.paths) > 0:
		return d.doPath(o)
	}
	return d.doFiles(o)
}

// doChip does what needs no file system.
func (d *Desk) doChip(o order) string {
	e := api.OK
	switch o.verb {
	case "chip":
		e = d.newChip(api.Geo{Blocks: o.number(0), Pages: o.number(1), Size: o.number(2)})
	case "bad":
		e = d.chip.Mark(o.number(0))
	case "fault":
		e = d.fault(api.Fault{At: o.number(0), Kind: o.number(1), Data: o.data})
	case "lose":
		d.chip.Lose()
	case "start":
		d.chip.Start()
	case "format":
		// What was mounted is none any more, however far a formatting comes.
		d.files = nil
		e = fs.Format(d.chip, o.number(0))
	case "mount":
		e = d.mount()
	}
	return answer(e, done)
}

// newChip puts a new chip in the place of the one that was there. (The faults that lines told stay: the next such line sets them, with its own, for this one.)
func (d *Desk) newChip(g api.Geo) api.Errno {
	c, e := nand.New(g, nil)
	if e == api.OK {
		d.chip, d.files = c, nil
	}
	return e
}

// fault puts one fault more behind those that there are.
func (d *Desk) fault(f api.Fault) api.Errno {
	if len(d.faults) >= mostFaults {
		return api.ErrLong
	}
	all := slices.Concat(d.faults, []api.Fault{f})
	e := d.chip.Script(all)
	if e == api.OK {
		d.faults = all
	}
	return e
}

// mount mounts the chip. What was mounted stays, if that is refused.
func (d *Desk) mount() api.Errno {
	f, e := fs.Mount(d.chip)
	if e == api.OK {
		d.files = f
	}
	return e
}

// doFiles does what is done with a file system by handles, or with all of it.
func (d *Desk) doFiles(o order) string {
	f := d.files
	switch o.verb {
	case "unmount":
		// Whatever it answers, it is nil.
		d.files = nil
		return answer(f.Unmount(), done)
	case "close":
		return answer(f.Close(o.number(0)), done)
	case "read":
		b, e := f.Read(o.number(0), o.number(1))
		return answer(e, "bytes", toHex(b))
	case "write", "fill":
		n, e := f.Write(o.number(0), o.data)
		return answer(e, "wrote", strconv.Itoa(n))
	case "seek":
		at, e := f.Seek(o.number(0), o.numbers[1], o.number(2))
		return answer(e, "at", strconv.FormatInt(at, 10))
	case "df":
		s, e := f.StatFS()
		return answer(e, roomWords(s)...)
	case "fsync":
		return answer(f.Fsync(o.number(0)), done)
	}
	return answer(f.Sync(), done)
}

// roomWords are the words for how much there is of a file system.
func roomWords(s api.StatFS) []string {
	of := func(used, all int) []string {
		return []string{strconv.Itoa(used), "of", strconv.Itoa(all)}
	}
	words := slices.Concat([]string{"pages"}, of(s.UsedPages, s.Pages), []string{"inodes"}, of(s.UsedInodes, s.Inodes))
	if s.ReadOnly {
		words = append(words, "read-only")
	}
	return words
}

// doPath does what is done with a file system by paths.
func (d *Desk) doPath(o order) string {
	f, p := d.files, o.paths[0]
	switch o.verb {
	case "open":
		h, e := f.Open(p, o.number(0))
		return answer(e, "handle", strconv.Itoa(h))
	case "truncate":
		return answer(f.Truncate(p, o.numbers[0]), done)
	case "mkdir":
		return answer(f.Mkdir(p), done)
	case "rmdir":
		return answer(f.Rmdir(p), done)
	case "unlink":
		return answer(f.Unlink(p), done)
	case "link":
		return answer(f.Link(p, o.paths[1]), done)
	case "rename":
		return answer(f.Rename(p, o.paths[1]), done)
	case "stat":
		s, e := f.Stat(p)
		return answer(e, statWords(s)...)
	case "ls":
		l, e := f.List(p)
		return answer(e, nameWords(l)...)
	}
	return answer(api.OK, pathWords(f, p)...)
}

// statWords are the words for what a path names.
func statWords(s api.Stat) []string {
	return []string{
		"inode", strconv.Itoa(s.Inode),
		"kind", strconv.Itoa(s.Kind),
		"links", strconv.Itoa(s.Links),
		"size", strconv.FormatInt(s.Size, 10),
		"pages", strconv.Itoa(s.Pages),
	}
}

// nameWords are the words for entries.
func nameWords(l []api.Entry) []string {
	words := []string{"names"}
	for _, entry := range l {
		words = append(words, entry.Name)
	}
	return words
}

// pathWords are the words for all that is below a directory.
func pathWords(f *fs.FS, p string) []string {
	words := []string{"paths"}
	for at := range f.Walk(p) {
		words = append(words, at)
	}
	return words
}
