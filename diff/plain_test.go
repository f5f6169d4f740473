package diff

import (
	"slices"
	"strings"
	"testing"

	"cuneiform/api"
	"cuneiform/fs"
)

// What the document says, told plainly: files are read whole, and a path is looked for in a row.

// found is what is below a directory.
type found struct {
	at   string
	stat api.Stat
}

// belowTold is all that is below a directory.
func belowTold(f *fs.FS, p string) []found {
	base := strings.TrimSuffix(clean(p), "/")
	var l []found
	for full, s := range f.Walk(p) {
		l = append(l, found{full[len(base):], s})
	}
	return l
}

// among is what has a path.
func among(l []found, at string) (found, bool) {
	k := slices.IndexFunc(l, func(x found) bool { return x.at == at })
	if k < 0 {
		return found{}, false
	}
	return l[k], true
}

// under is a path below a directory.
func under(p, at string) string {
	return strings.TrimSuffix(clean(p), "/") + at
}

// handlesTold is ErrHandles, if there are not as many free as it needs to hold these files against each other.
func handlesTold(f *fs.FS, a string, g *fs.FS, b string) api.Errno {
	h, e := f.Open(a, 1)
	if e != api.OK {
		return e
	}
	k, e := g.Open(b, 1)
	if e == api.OK {
		g.Close(k)
	}
	f.Close(h)
	return e
}

// compareTold is what Compare is to answer.
func compareTold(t *testing.T, f *fs.FS, p string, g *fs.FS, q string) ([]Change, api.Errno) {
	t.Helper()
	if _, e := f.List(p); e != api.OK {
		return nil, e
	}
	if _, e := g.List(q); e != api.OK {
		return nil, e
	}
	from, to := belowTold(f, p), belowTold(g, q)
	var l []Change
	for _, x := range from {
		y, there := among(to, x.at)
		kind := 0
		switch {
		case !there:
			kind = 1
		case x.stat.Kind != y.stat.Kind:
			kind = 3
		case x.stat.Kind == 2:
		case x.stat.Size != y.stat.Size:
			kind = 4
		case x.stat.Size > 0:
			if e := handlesTold(f, under(p, x.at), g, under(q, x.at)); e != api.OK {
				return nil, e
			}
			if textOf(t, f, under(p, x.at)) != textOf(t, g, under(q, x.at)) {
				kind = 4
			}
		}
		if kind > 0 {
			l = append(l, Change{kind, x.at})
		}
	}
	for _, y := range to {
		if _, there := among(from, y.at); !there {
			l = append(l, Change{2, y.at})
		}
	}
	return l, api.OK
}

// copyTold makes, call by call, what Copy is to make, and is what it is to answer.
func copyTold(t *testing.T, f *fs.FS, p string, g *fs.FS, q string) api.Errno {
	t.Helper()
	a, right := names(p)
	b, too := names(q)
	n := min(len(a), len(b))
	if f == g && right && too && slices.Equal(a[:n], b[:n]) {
		return api.ErrInside
	}
	l, e := compareTold(t, f, p, g, q)
	if e != api.OK {
		return e
	}
	kind := func(at string) int {
		k := slices.IndexFunc(l, func(c Change) bool { return c.Path == at })
		if k < 0 {
			return 0
		}
		return l[k].Kind
	}
	from, to := belowTold(f, p), belowTold(g, q)
	for k := len(to) - 1; k >= 0; k-- {
		y := to[k]
		if k := kind(y.at); k != 2 && k != 3 && (k != 4 || y.stat.Links < 2) {
			continue
		}
		if y.stat.Kind == 2 {
			e = g.Rmdir(under(q, y.at))
		} else {
			e = g.Unlink(under(q, y.at))
		}
		if e != api.OK {
			return e
		}
	}
	for _, x := range from {
		k := kind(x.at)
		if k == 0 {
			continue
		}
		if x.stat.Kind == 2 {
			e = g.Mkdir(under(q, x.at))
		} else {
			e = fileTold(f, under(p, x.at), g, under(q, x.at), x.stat.Size)
		}
		if e != api.OK {
			return e
		}
	}
	return api.OK
}

// fileTold carries a file over.
func fileTold(f *fs.FS, p string, g *fs.FS, q string, size int64) api.Errno {
	h, e := f.Open(p, 1)
	if e != api.OK {
		return e
	}
	defer f.Close(h)
	k, e := g.Open(q, 22)
	if e != api.OK {
		return e
	}
	for at := int64(0); at < size; at += 1024 {
		b, e := f.Read(h, 1024)
		if e == api.OK && strings.Trim(string(b), "\x00") != "" {
			g.Seek(k, at, 0)
			_, e = g.Write(k, b)
		}
		if e != api.OK {
			g.Close(k)
			return e
		}
	}
	if e = g.Close(k); e != api.OK {
		return e
	}
	return g.Truncate(q, size)
}
