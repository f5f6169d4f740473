package usage

import (
	"math/rand"
	"strings"
	"testing"

	"cuneiform/api"
	"cuneiform/fs"
	"cuneiform/nand"
)

// is fails the test, if a call answered another error than it was to.
func is(t *testing.T, what string, got, want api.Errno) {
	t.Helper()
	if got != want {
		t.Errorf("%s: %d, not %d", what, got, want)
	}
}

// some is a new file system of 64 bytes a page, with 28 inodes.
func some(t *testing.T) (*nand.Chip, *fs.FS) {
	t.Helper()
	c, _ := nand.New(api.Geo{Blocks: 44, Pages: 8, Size: 64}, nil)
	is(t, "Format", fs.Format(c, 2), api.OK)
	f, e := fs.Mount(c)
	if e != api.OK {
		t.Fatal("Mount:", e)
	}
	return c, f
}

// put writes a text to a file, and makes the file, if it is not there.
func put(f *fs.FS, p string, text string) api.Errno {
	h, e := f.Open(p, fs.Writes|fs.Creates)
	if e != api.OK {
		return e
	}
	_, e = f.Write(h, []byte(text))
	f.Close(h)
	return e
}

// grows makes what is told: "/d" a directory, "/a=xyz" a file with that text, "/b>/a" another name of it.
func grows(t *testing.T, f *fs.FS, l ...string) {
	t.Helper()
	for _, s := range l {
		if p, text, ok := strings.Cut(s, "="); ok {
			is(t, "to put "+p, put(f, p, text), api.OK)
		} else if p, old, ok := strings.Cut(s, ">"); ok {
			is(t, "Link of "+p, f.Link(old, p), api.OK)
		} else {
			is(t, "Mkdir of "+s, f.Mkdir(s), api.OK)
		}
	}
}

// plants makes something by chance, in steps of which some are refused.
func plants(r *rand.Rand, f *fs.FS, steps int) {
	for range steps {
		old, dir := "/a", ""
		for p, s := range f.Walk("/") {
			if r.Intn(4) == 0 {
				old = p
			}
			if s.Kind == api.IDir && r.Intn(3) == 0 {
				dir = p
			}
		}
		p := dir + "/" + string("abcdef"[r.Intn(6)])
		switch r.Intn(16) {
		case 0, 1, 2, 3:
			f.Mkdir(p)
		case 4, 5, 6:
			put(f, p, strings.Repeat("x", []int{0, 1, 64, 65, 500, 1000}[r.Intn(6)]))
		case 7:
			f.Truncate(old, []int64{0, 3, 384, 385, 1 << 14, 20000}[r.Intn(6)])
		case 8:
			f.Unlink(old)
		case 9:
			f.Rmdir(old)
		case 10, 11:
			f.Rename(old, p)
		default:
			f.Link(old, p)
		}
	}
}

// dirsOf are the paths of the root and of all directories below it.
func dirsOf(f *fs.FS) []string {
	l := []string{"/"}
	for p, s := range f.Walk("/") {
		if s.Kind == api.IDir {
			l = append(l, p)
		}
	}
	return l
}

// wrongPaths are some that are refused, with their errors, where /a is a file and /d a directory.
var wrongPaths = map[string]api.Errno{
	"": api.ErrPath, "d": api.ErrPath, "/" + strings.Repeat("/", 255): api.ErrPath, strings.Repeat("/d", 17): api.ErrPath,
	"/.": api.ErrName, "/d/..": api.ErrName, "/abcdefghijklmn": api.ErrName, "/none": api.ErrNoEntry, "/d/c": api.ErrNoEntry, "/a": api.ErrNotDir, "/a/b": api.ErrNotDir,
}
