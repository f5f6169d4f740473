package find

import (
	"math/rand"
	"slices"
	"strings"
	"testing"

	"cuneiform/api"
	"cuneiform/fs"
	"cuneiform/nand"
)

// is fails the test, if a call answered another error than it was to.
func is(t *testing.T, what string, got, want api.Errno) {
	t.Helper()
	if got != want {
		t.Errorf("%s: %d, not %d", what, got, want)
	}
}

// some is a new file system of 64 bytes a page, with 28 inodes.
func some(t *testing.T) (*nand.Chip, *fs.FS) {
	t.Helper()
	c, _ := nand.New(api.Geo{Blocks: 44, Pages: 8, Size: 64}, nil)
	is(t, "Format", fs.Format(c, 2), api.OK)
	f, e := fs.Mount(c)
	if e != api.OK {
		t.Fatal("Mount:", e)
	}
	return c, f
}

// put makes a file of bytes 0 of that size.
func put(f *fs.FS, p string, size int64) api.Errno {
	h, e := f.Open(p, fs.Writes|fs.Creates)
	if e != api.OK {
		return e
	}
	f.Close(h)
	return f.Truncate(p, size)
}

// grows makes what is told: "/d" a directory, "/a=xyz" a file of three bytes, "/b>/a" another name of it.
func grows(t *testing.T, f *fs.FS, l ...string) {
	t.Helper()
	for _, s := range l {
		if p, text, ok := strings.Cut(s, "="); ok {
			is(t, "to put "+p, put(f, p, int64(len(text))), api.OK)
		} else if p, old, ok := strings.Cut(s, ">"); ok {
			is(t, "Link of "+p, f.Link(old, p), api.OK)
		} else {
			is(t, "Mkdir of "+s, f.Mkdir(s), api.OK)
		}
	}
}

// plants makes something by chance; names, of which some begin others, with bytes below and above that of a slash.
func plants(r *rand.Rand, f *fs.FS, steps int) {
	parts := []string{"a", "a!", "a.b", "a0", "ab", "b", "\x01", "\xff", "abcdefghijklm"}
	for range steps {
		old, dir := "/a", ""
		for p, s := range f.Walk("/") {
			if r.Intn(4) == 0 {
				old = p
			}
			if s.Kind == api.IDir && r.Intn(3) == 0 {
				dir = p
			}
		}
		p := dir + "/" + parts[r.Intn(len(parts))]
		switch r.Intn(9) {
		case 0, 1, 2:
			f.Mkdir(p)
		case 3, 4, 5:
			put(f, p, []int64{0, 1, 2, 3, 64, 65, 1000}[r.Intn(7)])
		case 6:
			f.Unlink(old)
		default:
			f.Link(old, p)
		}
	}
}

// walked are all paths that Walk tells below a directory, with what is told of them.
func walked(f *fs.FS, p string) (l []string, stats []api.Stat) {
	for full, s := range f.Walk(p) {
		l = append(l, full)
		stats = append(stats, s)
	}
	return l, stats
}

// finds fails the test, if Find answers something else.
func finds(t *testing.T, f *fs.FS, p string, w Wish, want ...string) {
	t.Helper()
	if l, e := Find(f, p, w); !slices.Equal(l, want) || e != api.OK {
		t.Errorf("Find of %q, %v: %q, %d, not %q", p, w, l, e, want)
	}
}

// refuses fails the test, if Find answers something but that error.
func refuses(t *testing.T, f *fs.FS, p string, w Wish, want api.Errno) {
	t.Helper()
	if l, e := Find(f, p, w); len(l) > 0 || e != want {
		t.Errorf("Find of %q, %v: %q, %d, not %d", p, w, l, e, want)
	}
}

// wrongWishes are some that are refused, with their errors.
var wrongWishes = []struct {
	w    Wish
	want api.Errno
}{
	{Wish{}, api.ErrPath},
	{Wish{Pattern: "a"}, api.ErrPath},
	{Wish{Pattern: "/" + strings.Repeat("/", 255)}, api.ErrPath},
	{Wish{Pattern: strings.Repeat("/a", 17)}, api.ErrPath},
	{Wish{Pattern: "/[]"}, api.ErrName},
	{Wish{Pattern: "/" + strings.Repeat("a", 65)}, api.ErrName},
	{Wish{Pattern: "/**", Kind: -1}, api.ErrArg},
	{Wish{Pattern: "/**", Kind: 3}, api.ErrArg},
	{Wish{Pattern: "/**", Least: -1}, api.ErrArg},
	{Wish{Pattern: "/**", Least: -1 << 63}, api.ErrArg},
	{Wish{Pattern: "/**", Links: -1}, api.ErrArg},
	{Wish{Pattern: "/**", Links: -1 << 63}, api.ErrArg},
	{Wish{Pattern: "/**", Order: -1}, api.ErrArg},
	{Wish{Pattern: "/**", Order: 4}, api.ErrArg},
	{Wish{Pattern: "/**", Kind: 1<<63 - 1, Order: 1<<63 - 1}, api.ErrArg},
	// The pattern's error is named first.
	{Wish{Pattern: "", Kind: 3}, api.ErrPath},
	{Wish{Pattern: "/[", Least: -1}, api.ErrName},
	{Wish{Pattern: "/[", Order: 9, Links: -1}, api.ErrName},
}
