package find

import (
	"math/rand"
	"slices"
	"strconv"
	"strings"
	"testing"

	"cuneiform/api"
	"cuneiform/fs"
)

func TestExamples(t *testing.T) { // P22.2
	_, f := some(t)
	grows(t, f, "/a=", "/d", "/d/b=")
	finds(t, f, "/", Wish{Pattern: "/*"}, "/a", "/d")
	finds(t, f, "/", Wish{Pattern: "/**/b"}, "/d/b")
	finds(t, f, "/", Wish{Pattern: "/**/x"})
}

func TestFindOfDirectories(t *testing.T) { // P22.2: paths are without the directory's own, however that is written
	_, f := some(t)
	grows(t, f, "/d", "/d/e", "/d/e/a=x", "/d/e/b", "/d/e/b/c=y", "/d/d", "/d/d/e")
	for _, p := range []string{"/d/e", "/d/e/", "//d///e", "/d/e" + strings.Repeat("/", 251)} {
		finds(t, f, p, Wish{Pattern: "/**"}, "/a", "/b", "/b/c")
		finds(t, f, p, Wish{Pattern: "/*"}, "/a", "/b")
		finds(t, f, p, Wish{Pattern: "/b/*"}, "/b/c")
		finds(t, f, p, Wish{Pattern: "/d/**"})
		finds(t, f, p, Wish{Pattern: "/"}) // the directory itself is not found
	}
	finds(t, f, "/d", Wish{Pattern: "/d/**"}, "/d", "/d/e")
	finds(t, f, "/d/d", Wish{Pattern: "/**"}, "/e")
	finds(t, f, "/d/d/e", Wish{Pattern: "/**"})
	finds(t, f, "/", Wish{Pattern: "/**/e/*"}, "/d/e/a", "/d/e/b")
}

func TestFindByWishes(t *testing.T) { // P22.2
	_, f := some(t)
	grows(t, f, "/a=", "/b=12345", "/d", "/d/a=123", "/d/b>/b", "/d/e", "/d/e/c>/b", "/f=1234567")
	for _, x := range []struct {
		w    Wish
		want []string
	}{
		{Wish{Kind: api.IFile}, []string{"/a", "/b", "/d/a", "/d/b", "/d/e/c", "/f"}},
		{Wish{Kind: api.IDir}, []string{"/d", "/d/e"}},
		{Wish{Least: 3, Most: 5}, []string{"/b", "/d/a", "/d/b", "/d/e/c"}},
		{Wish{Most: 3}, []string{"/a", "/d", "/d/a", "/d/e"}},
		{Wish{Kind: api.IFile, Most: 3}, []string{"/a", "/d/a"}},
		{Wish{Kind: api.IDir, Most: 3}, []string{"/d", "/d/e"}},
		{Wish{Kind: api.IDir, Least: 3, Most: 5}, nil},
		{Wish{Least: 6, Most: -1}, []string{"/f"}},
		{Wish{Least: 6}, nil},
		{Wish{Links: 1}, []string{"/a", "/b", "/d/a", "/d/b", "/d/e/c", "/f"}},
		{Wish{Links: 3}, []string{"/b", "/d/b", "/d/e/c"}},
		{Wish{Links: 4}, nil},
		{Wish{Links: 3, Least: 6, Most: 6}, nil},
	} {
		x.w.Pattern = "/**"
		finds(t, f, "/", x.w, x.want...)
	}
	finds(t, f, "/", Wish{Pattern: "/**/[bc]", Links: 2, Least: 5, Most: 5, Order: 3}, "/b", "/d/b", "/d/e/c")
}

func TestFindByNames(t *testing.T) { // P22.2: part by part, by bytes, the beginning first
	_, f := some(t)
	grows(t, f, "/b=", "/\xff=", "/a!", "/a", "/a/z=", "/a/b=", "/a!/a=", "/a.b=", "/a/a", "/a/a/a=", "/aa=", "/A=", "/\x01=", "/\xc3\xa4=", "/~=")
	want := []string{"/\x01", "/A", "/a", "/a/a", "/a/a/a", "/a/b", "/a/z", "/a!", "/a!/a", "/a.b", "/aa", "/b", "/~", "/\xc3\xa4", "/\xff"}
	finds(t, f, "/", Wish{Pattern: "/**", Order: 1}, want...)
	finds(t, f, "/a", Wish{Pattern: "/**", Order: 1}, "/a", "/a/a", "/b", "/z")
	finds(t, f, "/", Wish{Pattern: "/a*/**", Order: 1, Kind: api.IFile}, "/a/a/a", "/a/b", "/a/z", "/a!/a", "/a.b", "/aa")
}

func TestFindBySize(t *testing.T) { // P22.2: the greatest first, a directory's is 0
	_, f := some(t)
	grows(t, f, "/e=", "/s=1", "/d", "/d/a=22", "/d/b=1", "/d/c=", "/k", "/g=333")
	is(t, "to put", put(f, "/far", 1<<15), api.OK)
	finds(t, f, "/", Wish{Pattern: "/**", Order: 2}, "/far", "/g", "/d/a", "/s", "/d/b", "/e", "/d", "/d/c", "/k")
	finds(t, f, "/", Wish{Pattern: "/**", Order: 2, Kind: api.IDir}, "/d", "/k")
}

func TestFindByDepth(t *testing.T) { // P22.2
	_, f := some(t)
	grows(t, f, "/z", "/z/y", "/z/y/x", "/z/y/x/w=", "/z/v=", "/b", "/b/a", "/b/a/c=", "/a=")
	finds(t, f, "/", Wish{Pattern: "/**", Order: 3}, "/z", "/b", "/a", "/z/y", "/z/v", "/b/a", "/z/y/x", "/b/a/c", "/z/y/x/w")
	finds(t, f, "/z", Wish{Pattern: "/**", Order: 3, Kind: api.IFile}, "/v", "/y/x/w")
}

func TestWhatIsAlikeStaysAsWalked(t *testing.T) { // P22.2
	_, f := some(t)
	grows(t, f, "/m=12", "/d", "/d/n=", "/e")
	r := rand.New(rand.NewSource(1))
	for _, k := range r.Perm(60) {
		grows(t, f, []string{"/", "/d/", "/e/"}[k%3]+strconv.Itoa(k)+">"+[]string{"/m", "/d/n"}[r.Intn(2)])
	}
	for order := range 4 {
		finds(t, f, "/", Wish{Pattern: "/**", Order: order}, findTold(f, "", Wish{Pattern: "/**", Order: order})...)
	}
	all, _ := walked(f, "/")
	finds(t, f, "/", Wish{Pattern: "/**"}, all...)
}

func TestFindDeep(t *testing.T) { // P22.2: the longest paths that there are
	_, f := some(t)
	name := "/abcdefghijklm"
	for k := range 15 {
		grows(t, f, strings.Repeat(name, k+1))
	}
	grows(t, f, strings.Repeat(name, 16)+"=x", "/n>"+strings.Repeat(name, 16))
	finds(t, f, "/", Wish{Pattern: "/**", Kind: api.IFile, Order: 3}, "/n", strings.Repeat(name, 16))
	finds(t, f, strings.Repeat(name, 15), Wish{Pattern: "/*"}, name)
	finds(t, f, "/", Wish{Pattern: strings.Repeat("/**", 15) + "/a*m", Least: 1, Most: 1}, strings.Repeat(name, 16))
	refuses(t, f, strings.Repeat(name, 17), Wish{Pattern: "/**"}, api.ErrPath)
}

func TestFindRefused(t *testing.T) { // P22.2, P1
	c, f := some(t)
	grows(t, f, "/d", "/a=x")
	wrong := map[string]api.Errno{
		"": api.ErrPath, "d": api.ErrPath, "/" + strings.Repeat("/", 255): api.ErrPath, strings.Repeat("/d", 17): api.ErrPath,
		"/.": api.ErrName, "/abcdefghijklmn": api.ErrName, "/none": api.ErrNoEntry, "/d/c": api.ErrNoEntry, "/a": api.ErrNotDir, "/a/b": api.ErrNotDir,
	}
	for p, want := range wrong {
		refuses(t, f, p, Wish{Pattern: "/**"}, want)
		refuses(t, f, p, Wish{}, want) // the directory's is named first
		refuses(t, f, p, Wish{Pattern: "/**", Order: 4}, want)
	}
	for _, x := range wrongWishes {
		refuses(t, f, "/", x.w, x.want)
		refuses(t, f, "/d", x.w, x.want) // also of a directory that has nothing
		refuses(t, nil, "/", x.w, api.ErrNil)
		refuses(t, &fs.FS{}, "/", x.w, api.ErrNil)
	}
	c.Lose()
	refuses(t, f, "/", Wish{Pattern: "/**"}, api.ErrDown)
	refuses(t, f, "", Wish{}, api.ErrDown)
	c.Start()
	_, f = some(t)
	is(t, "Unmount", f.Unmount(), api.OK)
	refuses(t, f, "/", Wish{Pattern: "/**"}, api.ErrNil)
}

func TestFindChangesNothing(t *testing.T) { // P22.2: nor does it ask for a handle, or to be allowed to write
	c, f := some(t)
	grows(t, f, "/d", "/d/a=xyz")
	for range api.MaxHandles {
		_, e := f.Open("/d/a", fs.Reads)
		is(t, "Open", e, api.OK)
	}
	strokes := c.Strokes()
	before, _ := f.StatFS()
	finds(t, f, "/", Wish{Pattern: "/**", Order: 2}, "/d/a", "/d")
	after, _ := f.StatFS()
	if before != after || c.Strokes() != strokes {
		t.Error("something was changed")
	}
	is(t, "Close", f.Close(15), api.OK)
	// What one call answered is not changed by another one, nor by the caller.
	l, _ := Find(f, "/", Wish{Pattern: "/**"})
	l[0] = "x"
	finds(t, f, "/", Wish{Pattern: "/**"}, "/d", "/d/a")
}

func TestFindByChance(t *testing.T) { // P22.2 to P22.5
	r := rand.New(rand.NewSource(1))
	patterns := []string{"/**", "/*", "/", "/**/a*", "/a/**", "/**/[ab]*/**", "/*/*", "/**/*!", "/a[!a-c]*/**", "/?", "/**/?/?"}
	for range 60 {
		_, f := some(t)
		plants(r, f, 60)
		bases := []string{""}
		all, stats := walked(f, "/")
		for k, p := range all {
			if stats[k].Kind == api.IDir {
				bases = append(bases, p)
			}
		}
		for range 60 {
			base := bases[r.Intn(len(bases))]
			w := Wish{patterns[r.Intn(len(patterns))], r.Intn(3), int64(r.Intn(4) * r.Intn(2)), int64(r.Intn(70) - 2), r.Intn(3) * r.Intn(2), r.Intn(4)}
			if r.Intn(3) > 0 {
				w.Most = int64(r.Intn(2)) * -1
			}
			finds(t, f, base+"/", w, findTold(f, base, w)...)
			follows(t, f, base, w)
		}
	}
}

// follows fails the test, if what follows from the promises does not.
func follows(t *testing.T, f *fs.FS, base string, w Wish) {
	t.Helper()
	sorted := func(w Wish) []string {
		l, e := Find(f, base+"/", w)
		is(t, "Find", e, api.OK)
		slices.Sort(l)
		return l
	}
	of := func(kind, order int) Wish {
		v := w
		v.Kind, v.Order = kind, order
		return v
	}
	for order := range 4 { // P22.3
		if a, b := sorted(w), sorted(of(w.Kind, order)); !slices.Equal(a, b) {
			t.Errorf("%v: %q, and in the order %d %q", w, a, order, b)
		}
		all, _ := walked(f, base+"/") // P22.4
		for k := range all {
			all[k] = all[k][len(base):]
		}
		slices.Sort(all)
		if l := sorted(Wish{Pattern: "/**", Order: order}); !slices.Equal(l, all) {
			t.Errorf("/** finds %q, not %q", l, all)
		}
	}
	both := slices.Concat(sorted(of(api.IFile, 0)), sorted(of(api.IDir, 0))) // P22.5
	slices.Sort(both)
	if l := sorted(of(0, 0)); !slices.Equal(l, both) {
		t.Errorf("%v: of both Kinds %q, of any %q", w, both, l)
	}
}
