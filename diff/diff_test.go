package diff

import (
	"math/rand"
	"slices"
	"strings"
	"testing"

	"cuneiform/api"
	"cuneiform/fs"
)

// compares fails the test, if Compare answers something else.
func compares(t *testing.T, f *fs.FS, p string, g *fs.FS, q string, e api.Errno, want ...Change) {
	t.Helper()
	if l, got := Compare(f, p, g, q); !slices.Equal(l, want) || got != e {
		t.Errorf("Compare of %q and %q: %v, %d, not %v, %d", p, q, l, got, want, e)
	}
}

func TestExamples(t *testing.T) { // P21.1
	x := both(t)
	compares(t, x.f, "/", x.g, "/", api.OK)
	grows(t, x.f, "/a=")
	compares(t, x.f, "/", x.g, "/", api.OK, Change{Gone, "/a"})
	if Gone != 1 || New != 2 || Other != 3 || Bytes != 4 {
		t.Error("the Kinds have other numbers")
	}
}

func TestCompareKinds(t *testing.T) { // P21.1
	for _, c := range []struct {
		what         string
		first, there []string
		want         []Change
	}{
		{"a file alone", []string{"/a=x"}, nil, []Change{{Gone, "/a"}}},
		{"a file alone there", nil, []string{"/a=x"}, []Change{{New, "/a"}}},
		{"directories alone", []string{"/a", "/a/b", "/a/b/c=x"}, nil, []Change{{Gone, "/a"}, {Gone, "/a/b"}, {Gone, "/a/b/c"}}},
		{"directories alone there", nil, []string{"/a", "/a/b", "/a/b/c=x"}, []Change{{New, "/a"}, {New, "/a/b"}, {New, "/a/b/c"}}},
		{"a file and a directory", []string{"/a=x"}, []string{"/a"}, []Change{{Other, "/a"}}},
		{"a directory and a file", []string{"/a", "/a/b"}, []string{"/a="}, []Change{{Other, "/a"}, {Gone, "/a/b"}}},
		{"a file and a directory with something", []string{"/a="}, []string{"/a", "/a/b="}, []Change{{Other, "/a"}, {New, "/a/b"}}},
		{"two files that are alike", []string{"/a=xyz"}, []string{"/a=xyz"}, nil},
		{"two empty files", []string{"/a="}, []string{"/a="}, nil},
		{"two directories", []string{"/a"}, []string{"/a"}, nil},
		{"unlike sizes", []string{"/a=xyz"}, []string{"/a=xy"}, []Change{{Bytes, "/a"}}},
		{"unlike sizes, one none", []string{"/a="}, []string{"/a=x"}, []Change{{Bytes, "/a"}}},
		{"unlike sizes of bytes 0", []string{"/a=\x00"}, []string{"/a=\x00\x00"}, []Change{{Bytes, "/a"}}},
		{"unlike bytes", []string{"/a=xyz"}, []string{"/a=xyy"}, []Change{{Bytes, "/a"}}},
		{"names of one file and files of their own", []string{"/a=x", "/b>/a"}, []string{"/a=x", "/b=x"}, nil},
		{"names of other files", []string{"/a=x", "/b>/a", "/c=x"}, []string{"/a=x", "/b=x", "/c>/b"}, nil},
		{"another order", []string{"/b=", "/a=", "/d", "/c"}, []string{"/c", "/d", "/a=", "/b="}, nil},
		{"all of them", []string{"/z=1", "/d", "/d/b=2", "/d/a=3", "/k", "/e=5", "/c=6", "/y"}, []string{"/n", "/c=7", "/y=", "/d", "/d/a=33", "/d/n=", "/e", "/k", "/n/o"}, []Change{{Gone, "/z"}, {Gone, "/d/b"}, {Bytes, "/d/a"}, {Other, "/e"}, {Bytes, "/c"}, {Other, "/y"}, {New, "/n"}, {New, "/n/o"}, {New, "/d/n"}}},
	} {
		x := both(t)
		grows(t, x.f, c.first...)
		grows(t, x.g, c.there...)
		if l, e := Compare(x.f, "/", x.g, "/"); !slices.Equal(l, c.want) || e != api.OK {
			t.Errorf("%s: %v, %d, not %v", c.what, l, e, c.want)
		}
	}
}

func TestCompareOfBytes(t *testing.T) { // P21.1
	r := rand.New(rand.NewSource(1))
	text := noise(r, 3000)
	for _, at := range []int{0, 1, 63, 64, 1022, 1023, 1024, 1025, 2047, 2048, 2500, 2999} {
		x := both(t)
		grows(t, x.f, "/a="+text)
		grows(t, x.g, "/a="+text)
		compares(t, x.f, "/", x.g, "/", api.OK)
		b := []byte(text[at : at+1])
		b[0] ^= 1
		is(t, "to put", put(x.g, "/a", int64(at), string(b)), api.OK)
		compares(t, x.f, "/", x.g, "/", api.OK, Change{Bytes, "/a"})
		is(t, "to put", put(x.f, "/a", int64(at), string(b)), api.OK)
		compares(t, x.f, "/", x.g, "/", api.OK)
	}
	// What was not written is 0, like bytes 0 that were.
	for _, size := range []int64{1, 64, 1023, 1024, 1025, 3000} {
		x := both(t)
		grows(t, x.f, "/a="+strings.Repeat("\x00", int(size)))
		grows(t, x.g, "/a=")
		is(t, "Truncate", x.g.Truncate("/a", size), api.OK)
		compares(t, x.f, "/", x.g, "/", api.OK)
		is(t, "to put", put(x.g, "/a", size-1, "\x01"), api.OK)
		compares(t, x.f, "/", x.g, "/", api.OK, Change{Bytes, "/a"})
	}
}

func TestCompareOfDirectories(t *testing.T) { // P21.1: paths are without the directories' own, however these are written
	x := both(t)
	grows(t, x.f, "/d", "/d/e", "/d/e/a=x", "/d/e/b", "/d/e/b/c=y")
	grows(t, x.g, "/e", "/e/a=z", "/e/b", "/e/f=")
	for _, p := range []string{"/d/e", "/d/e/", "//d///e", "/d/e" + strings.Repeat("/", 251)} {
		for _, q := range []string{"/e", "//e//"} {
			compares(t, x.f, p, x.g, q, api.OK, Change{Bytes, "/a"}, Change{Gone, "/b/c"}, Change{New, "/f"})
			compares(t, x.g, q, x.f, p, api.OK, Change{Bytes, "/a"}, Change{Gone, "/f"}, Change{New, "/b/c"})
		}
	}
	compares(t, x.f, "/", x.g, "/", api.OK, Change{Gone, "/d"}, Change{Gone, "/d/e"}, Change{Gone, "/d/e/a"}, Change{Gone, "/d/e/b"}, Change{Gone, "/d/e/b/c"}, Change{New, "/e"}, Change{New, "/e/a"}, Change{New, "/e/b"}, Change{New, "/e/f"})
	// In one file system, also of directories that lie in one another.
	compares(t, x.f, "/d", x.f, "/d/e", api.OK, Change{Gone, "/e"}, Change{Gone, "/e/a"}, Change{Gone, "/e/b"}, Change{Gone, "/e/b/c"}, Change{New, "/a"}, Change{New, "/b"}, Change{New, "/b/c"})
	compares(t, x.f, "/d/e/b", x.f, "//d/e/b/", api.OK)
}

func TestCompareRefused(t *testing.T) { // P21.1, P1
	x := both(t)
	grows(t, x.f, "/d", "/a=x")
	grows(t, x.g, "/e", "/b=x")
	wrong := map[string]api.Errno{
		"": api.ErrPath, "d": api.ErrPath, "/" + strings.Repeat("/", 255): api.ErrPath, strings.Repeat("/d", 17): api.ErrPath,
		"/.": api.ErrName, "/abcdefghijklmn": api.ErrName, "/none": api.ErrNoEntry, "/a": api.ErrNotDir, "/b/c": api.ErrNoEntry, "/a/b": api.ErrNotDir,
	}
	for p, want := range wrong {
		compares(t, x.f, p, x.g, "/e", want)
		compares(t, x.f, p, x.g, "", want) // the first one's is named first
		compares(t, x.f, p, nil, "/", want)
		compares(t, x.f, p, x.f, "/", want)
		compares(t, nil, p, x.g, p, api.ErrNil)
		compares(t, nil, p, nil, p, api.ErrNil)
		compares(t, &fs.FS{}, p, x.g, p, api.ErrNil)
	}
	for q, want := range map[string]api.Errno{"": api.ErrPath, "/.": api.ErrName, "/a": api.ErrNoEntry, "/b": api.ErrNotDir} {
		compares(t, x.f, "/", x.g, q, want)
	}
	compares(t, x.f, "/", nil, "/", api.ErrNil)
	compares(t, x.f, "/", nil, "none", api.ErrNil)
	compares(t, x.f, "/", &fs.FS{}, "/", api.ErrNil)
	x.d.Lose()
	compares(t, x.f, "/", x.g, "/", api.ErrDown)
	compares(t, x.f, "/b", x.g, "/", api.ErrNoEntry)
	compares(t, x.g, "none", x.f, "/none", api.ErrDown)
}

func TestCompareWithoutAHandle(t *testing.T) { // P21.1
	x := both(t)
	grows(t, x.f, "/a=", "/d", "/d/e=x", "/s=xx", "/k=x")
	grows(t, x.g, "/d", "/d/e=y", "/s=x", "/k", "/a=", "/o=x")
	want := []Change{{Bytes, "/d/e"}, {Bytes, "/s"}, {Other, "/k"}, {New, "/o"}}
	uses(t, x.f, "/a", 15)
	uses(t, x.g, "/a", 15)
	compares(t, x.f, "/", x.g, "/", api.OK, want...)
	free(t, x.f, "/a", 1)
	free(t, x.g, "/a", 1)
	uses(t, x.f, "/a", 1)
	compares(t, x.f, "/", x.g, "/", api.ErrHandles)
	compares(t, x.g, "/", x.f, "/", api.ErrHandles)
	is(t, "Close", x.f.Close(7), api.OK)
	compares(t, x.f, "/", x.g, "/", api.OK, want...)
	uses(t, x.g, "/a", 1)
	compares(t, x.f, "/", x.g, "/", api.ErrHandles)
	compares(t, x.g, "/", x.f, "/", api.ErrHandles)
	free(t, x.f, "/a", 1)
	compares(t, x.f, "/", x.g, "none", api.ErrPath)
	// Just files of one size, above 0, are read.
	uses(t, x.f, "/a", 1)
	is(t, "Unlink", x.g.Unlink("/d/e"), api.OK)
	want[0].Kind = Gone
	compares(t, x.f, "/", x.g, "/", api.OK, want...)
	is(t, "Link", x.g.Link("/o", "/d/e"), api.OK)
	compares(t, x.f, "/", x.g, "/", api.ErrHandles)
	is(t, "Truncate", x.f.Truncate("/d/e", 0), api.OK)
	want[0].Kind = Bytes
	compares(t, x.f, "/", x.g, "/", api.OK, want...)
	is(t, "Truncate", x.g.Truncate("/d/e", 0), api.OK)
	compares(t, x.f, "/", x.g, "/", api.OK, want[1:]...)
}

func TestCompareOfOneWithoutAHandle(t *testing.T) { // P21.1: of one file system two handles are needed
	_, f := some(t)
	grows(t, f, "/p", "/q", "/p/a=x", "/q/a=y", "/q/b=")
	want := []Change{{Bytes, "/a"}, {New, "/b"}}
	uses(t, f, "/p/a", 14)
	compares(t, f, "/p", f, "/q", api.OK, want...)
	free(t, f, "/p/a", 2)
	uses(t, f, "/p/a", 1)
	compares(t, f, "/p", f, "/q", api.ErrHandles)
	free(t, f, "/p/a", 1)
	compares(t, f, "/p", f, "/p", api.ErrHandles) // of a directory and itself, too
	uses(t, f, "/p/a", 1)
	compares(t, f, "/p", f, "/q", api.ErrHandles)
	is(t, "Truncate", f.Truncate("/p/a", 0), api.OK)
	compares(t, f, "/p", f, "/q", api.OK, want...)
	compares(t, f, "/p", f, "/p", api.OK)
	compares(t, f, "/q", f, "/q", api.ErrHandles)
}

func TestCompareChangesNothing(t *testing.T) { // P21.1
	x := both(t)
	grows(t, x.f, "/d", "/d/a=abc", "/d/b>/d/a", "/c=some")
	grows(t, x.g, "/d", "/d/a=abd", "/c=more", "/e")
	for _, f := range []*fs.FS{x.f, x.g} {
		h, e := f.Open("/c", fs.Reads|fs.Writes)
		is(t, "Open", e, api.OK)
		_, e = f.Seek(h, 2, 0)
		is(t, "Seek", e, api.OK)
	}
	before, strokes := x.holds(t), x.c.Strokes()+x.d.Strokes()
	for _, p := range []string{"/", "/d", "/c", "/x"} {
		Compare(x.f, p, x.g, p)
		Compare(x.f, p, x.f, "/d")
	}
	if x.holds(t) != before || x.c.Strokes()+x.d.Strokes() != strokes {
		t.Error("something changed")
	}
	for _, f := range []*fs.FS{x.f, x.g} {
		if at, e := f.Seek(0, 0, 1); at != 2 || e != api.OK {
			t.Error("the place:", at, e)
		}
		free(t, f, "/c", 15)
	}
}

// counts are how many changes there are of each Kind.
func counts(l []Change) (n [5]int) {
	for _, c := range l {
		n[c.Kind]++
	}
	return n
}

func TestCompareByChance(t *testing.T) { // P21.1, P21.4, P21.5
	r := rand.New(rand.NewSource(2))
	var met [5]int
	for range 120 {
		x := byChance(t, r)
		dirs := []string{"/"}
		for p, s := range x.f.Walk("/") {
			if s.Kind == api.IDir {
				dirs = append(dirs, p)
			}
		}
		for range 4 {
			p, q := dirs[r.Intn(len(dirs))], dirs[r.Intn(len(dirs))]
			if r.Intn(3) == 0 {
				q = p
			}
			for _, g := range []*fs.FS{x.f, x.g} {
				want, e := compareTold(t, x.f, p, g, q)
				compares(t, x.f, p, g, q, e, want...)
				if e != api.OK {
					continue
				}
				there, back := counts(want), [5]int{}
				l, e := Compare(g, q, x.f, p)
				is(t, "Compare", e, api.OK)
				back = counts(l)
				if back != [5]int{0, there[New], there[Gone], there[Other], there[Bytes]} {
					t.Error("there", there, "and back", back)
				}
				for k := range met {
					met[k] += there[k]
				}
			}
			compares(t, x.f, p, x.f, p, api.OK)
		}
	}
	for kind := Gone; kind <= Bytes; kind++ {
		if met[kind] < 50 {
			t.Error("met:", met)
		}
	}
}

// byChance are two file systems by chance, that have some in common; or one.
func byChance(t *testing.T, r *rand.Rand) two {
	t.Helper()
	c, f := some(t)
	plants(r, f, "", 20)
	is(t, "Sync", f.Sync(), api.OK)
	x := two{c, c.Copy(), f, nil}
	x.g = mounts(t, x.d)
	plants(r, x.f, "", r.Intn(12))
	plants(r, x.g, "", r.Intn(12))
	if r.Intn(8) == 0 {
		x.d, x.g = x.c, x.f
	}
	return x
}

func TestAnyArguments(t *testing.T) { // P1
	r := rand.New(rand.NewSource(3))
	paths := []string{"", "/", "/a", "/b", "/c", "/d", "/a/b", "/d/", "//", "/.", "a", "\x00", strings.Repeat("/", 300), strings.Repeat("/a", 17)}
	for range 60 {
		x := byChance(t, r)
		l := []*fs.FS{x.f, x.g, nil, {}}
		for range 20 {
			f, g := l[r.Intn(4)], l[r.Intn(4)]
			p, q := paths[r.Intn(len(paths))], paths[r.Intn(len(paths))]
			want, e := compareTold(t, f, p, g, q)
			compares(t, f, p, g, q, e, want...)
			if e := Copy(f, p, g, q); e == api.OK {
				compares(t, f, p, g, q, api.OK)
			}
		}
	}
}

func TestPathsAsText(t *testing.T) { // P21.1: what is above a directory plays no part, also where its path comes again below it
	x := both(t)
	grows(t, x.f, "/a", "/a/a", "/a/a/a", "/a/a/a/a=x")
	compares(t, x.f, "/a", x.g, "/", api.OK, Change{Gone, "/a"}, Change{Gone, "/a/a"}, Change{Gone, "/a/a/a"})
	compares(t, x.f, "/a/a", x.g, "/", api.OK, Change{Gone, "/a"}, Change{Gone, "/a/a"})
	compares(t, x.g, "/", x.f, "/a/a/a", api.OK, Change{New, "/a"})
}
