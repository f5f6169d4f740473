package below

import (
	"slices"
	"strings"
	"testing"

	"cuneiform/api"
	"cuneiform/fs"
	"cuneiform/nand"
)

func fresh(t *testing.T) (*nand.Chip, *fs.FS) {
	t.Helper()
	c, _ := nand.New(api.Geo{Blocks: 44, Pages: 8, Size: 64}, nil)
	fs.Format(c, 2)
	f, e := fs.Mount(c)
	if e != api.OK {
		t.Fatal("Mount:", e)
	}
	for _, p := range []string{"/a", "/a/a", "/a/a/b", "/c", "/a/d"} {
		if e := f.Mkdir(p); e != api.OK {
			t.Fatal("Mkdir:", e)
		}
	}
	return c, f
}

func TestOf(t *testing.T) {
	_, f := fresh(t)
	for p, want := range map[string][]string{
		"/":      {"/a", "/a/a", "/a/a/b", "/a/d", "/c"},
		"//":     {"/a", "/a/a", "/a/a/b", "/a/d", "/c"},
		"/a":     {"/a", "/a/b", "/d"},
		"//a//":  {"/a", "/a/b", "/d"},
		"/a/a/":  {"/b"},
		"/a/a/b": nil,
	} {
		d, e := Of(f, p)
		if e != api.OK || d.Files() != f {
			t.Fatalf("Of %q: %v, %d", p, d, e)
		}
		base := strings.TrimRight(strings.ReplaceAll(p, "//", "/"), "/")
		var l, back []string
		for at, s := range d.All() {
			l = append(l, at)
			if d.Path(at) != base+at {
				t.Errorf("of %q the path of %q is %q", p, at, d.Path(at))
			}
			if got, e := f.Stat(d.Path(at)); got != s || e != api.OK {
				t.Error("Stat:", got, e, "not", s)
			}
		}
		for at := range d.Back() {
			back = append(back, at)
		}
		slices.Reverse(back)
		if !slices.Equal(l, want) || !slices.Equal(back, want) {
			t.Errorf("below %q there are %q, and back %q, not %q", p, l, back, want)
		}
	}
}

func TestOfIsOfNow(t *testing.T) {
	_, f := fresh(t)
	d, e := Of(f, "/a")
	if e != api.OK {
		t.Fatal("Of:", e)
	}
	var l []string
	for at := range d.Back() { // what is told may be removed one by one
		if e := f.Rmdir(d.Path(at)); e != api.OK {
			t.Error("Rmdir:", e)
		}
	}
	for at := range d.All() {
		l = append(l, at)
	}
	if !slices.Equal(l, []string{"/a", "/a/b", "/d"}) {
		t.Errorf("there are %q", l)
	}
}

func TestAsFarAsAskedFor(t *testing.T) {
	_, f := fresh(t)
	d, _ := Of(f, "/")
	for most := 1; most < 4; most++ {
		n := 0
		for range d.All() {
			if n++; n == most {
				break
			}
		}
		for range d.Back() {
			if n++; n == 2*most {
				break
			}
		}
		if n != 2*most {
			t.Error("so many were told:", n)
		}
	}
}

func TestOfNoDirectory(t *testing.T) {
	c, f := fresh(t)
	if _, e := f.Open("/f", 7); e != api.OK {
		t.Fatal("Open:", e)
	}
	refused := func(f *fs.FS, p string, want api.Errno) {
		t.Helper()
		if d, e := Of(f, p); d != nil || e != want {
			t.Errorf("Of %q: %v, %d, not %d", p, d, e, want)
		}
	}
	refused(f, "", api.ErrPath)
	refused(f, "/.", api.ErrName)
	refused(f, "/b", api.ErrNoEntry)
	refused(f, "/f", api.ErrNotDir)
	refused(nil, "/", api.ErrNil)
	c.Lose()
	refused(f, "/", api.ErrDown)
}
