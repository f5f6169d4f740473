package find

import (
	"math"
	"strings"
	"testing"

	"cuneiform/api"
)

// meets fails the test, if Meets answers something else.
func meets(t *testing.T, w Wish, p string, s api.Stat, want bool) {
	t.Helper()
	if got, e := Meets(w, p, s); got != want || e != api.OK {
		t.Errorf("Meets of %v, %q, %v: %v, %d, not %v", w, p, s, got, e, want)
	}
}

var (
	aFile = api.Stat{Inode: 2, Kind: api.IFile, Links: 1, Size: 5, Pages: 1}
	aDir  = api.Stat{Inode: 3, Kind: api.IDir, Links: 1, Size: 16, Pages: 1}
)

func TestMeetsPattern(t *testing.T) { // P22.1: the path as it stands
	for _, x := range []struct {
		pattern, path string
		want          bool
	}{
		{"/*", "/a", true}, {"/*", "/d", true}, {"/*", "/d/b", false}, {"/*", "/", false},
		{"/**/b", "/d/b", true}, {"/**/b", "/b", true}, {"/**/b", "/d/b/c", false},
		{"/d/b", "/d/b", true}, {"/b", "/d/b", false}, {"/d/b", "/b", false},
		{"/d/b", "//d///b/", true}, {"//d//b//", "/d/b", true},
		{"/**", "/", true}, {"/", "/", true}, {"/", "/a", false}, {"/", "///", true},
		{"/[ab]?", "/bx", true}, {"/[ab]?", "/cx", false}, {"/a", "/A", false},
		{strings.Repeat("/*", 16), strings.Repeat("/abcdefghijklm", 16), true},
	} {
		meets(t, Wish{Pattern: x.pattern}, x.path, aFile, x.want)
		meets(t, Wish{Pattern: x.pattern}, x.path, aDir, x.want)
		meets(t, Wish{Pattern: x.pattern, Most: -1}, x.path, aFile, x.want)
		meets(t, Wish{Pattern: x.pattern, Kind: api.IFile}, x.path, aFile, x.want)
		meets(t, Wish{Pattern: x.pattern, Kind: api.IDir}, x.path, aDir, x.want)
	}
}

func TestMeetsKind(t *testing.T) { // P22.1
	for kind, want := range [][2]bool{{true, true}, {true, false}, {false, true}} {
		meets(t, Wish{Pattern: "/a", Kind: kind}, "/a", aFile, want[0])
		meets(t, Wish{Pattern: "/a", Kind: kind}, "/a", aDir, want[1])
	}
}

func TestMeetsSize(t *testing.T) { // P22.1
	for _, x := range []struct {
		least, most, size int64
		want              bool
	}{
		{0, 0, 0, true}, {0, 0, 1, true}, {0, 0, math.MaxInt64, true}, // neither is asked for
		{0, -1, 0, true}, {0, -1, math.MaxInt64, true}, {0, math.MinInt64, 7, true},
		{0, 1, 0, true}, {0, 1, 1, true}, {0, 1, 2, false}, {0, 1 << 40, 1 << 40, true}, {0, 1 << 40, 1<<40 + 1, false},
		{1, -1, 0, false}, {1, -1, 1, true}, {1, -1, math.MaxInt64, true}, {1, math.MinInt64, 1, true}, {math.MaxInt64, -1, math.MaxInt64, true}, {math.MaxInt64, -1, math.MaxInt64 - 1, false},
		{5, 9, 4, false}, {5, 9, 5, true}, {5, 9, 9, true}, {5, 9, 10, false}, {5, 5, 5, true},
		{1, 0, 0, false}, {1, 0, 1, false}, {1, 0, 2, false}, {9, 5, 5, false}, {9, 5, 7, false}, {9, 5, 9, false}, // no size is so
	} {
		s := aFile
		s.Size = x.size
		w := Wish{Pattern: "/a", Least: x.least, Most: x.most}
		meets(t, w, "/a", s, x.want)
		w.Kind = api.IFile
		meets(t, w, "/a", s, x.want)
		meets(t, w, "/b", s, false)
		// A directory's size plays no part, but it meets no Least above 0.
		s.Kind, w.Kind = api.IDir, 0
		meets(t, w, "/a", s, x.least == 0)
		w.Kind = api.IDir
		meets(t, w, "/a", s, x.least == 0)
	}
}

func TestMeetsLinks(t *testing.T) { // P22.1
	for _, x := range []struct {
		wish, links int
		want        bool
	}{
		{0, 0, true}, {0, 1, true}, {0, 1000, true}, {1, 0, false}, {1, 1, true}, {1, 2, true}, {2, 1, false}, {2, 2, true},
		{1000, 999, false}, {1000, 1000, true}, {math.MaxInt, math.MaxInt, true}, {math.MaxInt, 1000, false},
	} {
		s := aFile
		s.Links = x.links
		meets(t, Wish{Pattern: "/a", Links: x.wish}, "/a", s, x.want)
		meets(t, Wish{Pattern: "/a", Links: x.wish, Least: 5, Most: 5}, "/a", s, x.want)
		meets(t, Wish{Pattern: "/a", Links: x.wish, Least: 6, Most: -1}, "/a", s, false)
		s.Kind = api.IDir
		meets(t, Wish{Pattern: "/a", Links: x.wish}, "/a", s, x.wish == 0)
	}
}

func TestMeetsOfWhatIsNone(t *testing.T) { // P22.1: other Kinds, and what is below 0
	for _, kind := range []int{0, 3, -1, math.MinInt, math.MaxInt} {
		s := api.Stat{Kind: kind, Size: 5, Links: 2}
		meets(t, Wish{Pattern: "/a"}, "/a", s, true)
		meets(t, Wish{Pattern: "/a", Least: 5, Most: 5, Links: 2}, "/a", s, true)
		meets(t, Wish{Pattern: "/a", Most: 4}, "/a", s, false)
		meets(t, Wish{Pattern: "/a", Least: 6, Most: -1}, "/a", s, false)
		meets(t, Wish{Pattern: "/a", Links: 3}, "/a", s, false)
		meets(t, Wish{Pattern: "/a", Kind: api.IFile}, "/a", s, false)
		meets(t, Wish{Pattern: "/a", Kind: api.IDir}, "/a", s, false)
	}
	for _, s := range []api.Stat{{Size: -1}, {Size: math.MinInt64}, {Links: -1}, {Links: math.MinInt}, {Size: -1, Links: -1}} {
		for _, kind := range []int{api.IFree, api.IFile, 3} {
			s.Kind = kind
			meets(t, Wish{Pattern: "/**"}, "/a", s, false)
			meets(t, Wish{Pattern: "/**", Most: -1}, "/a", s, false)
			meets(t, Wish{Pattern: "/**", Most: math.MinInt64, Kind: api.IFile}, "/a", s, false)
			meets(t, Wish{Pattern: "/**", Most: 9}, "/a", s, false)
		}
		s.Kind = api.IDir
		meets(t, Wish{Pattern: "/**", Most: 9}, "/a", s, true)
	}
}

func TestMeetsRefused(t *testing.T) { // P22.1, P1: the pattern's error, the wish's, and the path's, in this order
	refused := func(w Wish, p string, s api.Stat, want api.Errno) {
		t.Helper()
		if got, e := Meets(w, p, s); got || e != want {
			t.Errorf("Meets of %v, %q: %v, %d, not %d", w, p, got, e, want)
		}
	}
	paths := map[string]api.Errno{
		"": api.ErrPath, "a": api.ErrPath, "/" + strings.Repeat("/", 255): api.ErrPath, strings.Repeat("/a", 17): api.ErrPath,
		"/.": api.ErrName, "/a/..": api.ErrName, "/a\x00": api.ErrName, "/abcdefghijklmn": api.ErrName,
	}
	for p, want := range paths {
		for _, s := range []api.Stat{{}, aFile, aDir} {
			refused(Wish{Pattern: "/**"}, p, s, want)
			// Also where the wish can't be met.
			refused(Wish{Pattern: "/x", Kind: api.IDir, Least: 9}, p, s, want)
		}
	}
	for _, x := range wrongWishes {
		for _, s := range []api.Stat{{}, aFile, aDir} {
			refused(x.w, "/a", s, x.want)
			refused(x.w, "", s, x.want)
			refused(x.w, "/.", s, x.want)
		}
	}
}

func TestMeetsAsToldPlainly(t *testing.T) { // P22.1, P1: all that is near the edges
	for kind := -1; kind <= 3; kind++ {
		for least := int64(-1); least <= 2; least++ {
			for most := int64(-1); most <= 2; most++ {
				for links := -1; links <= 2; links++ {
					for order := -1; order <= 4; order++ {
						asToldPlainly(t, Wish{"/a/*", kind, least, most, links, order})
					}
				}
			}
		}
	}
}

// asToldPlainly holds Meets of a wish against what the document says, for what is told of many kinds.
func asToldPlainly(t *testing.T, w Wish) {
	t.Helper()
	wrong := w.Kind < 0 || w.Kind > 2 || w.Least < 0 || w.Links < 0 || w.Order < 0 || w.Order > 3
	for kind := -1; kind <= 3; kind++ {
		for size := int64(-1); size <= 3; size++ {
			for links := -1; links <= 3; links++ {
				s := api.Stat{Kind: kind, Size: size, Links: links}
				for _, p := range []string{"/a/b", "/b"} {
					got, e := Meets(w, p, s)
					if wrong && (got || e != api.ErrArg) || !wrong && (got != meetsTold(w, p, s) || e != api.OK) {
						t.Fatalf("Meets of %v, %q, %v: %v, %d", w, p, s, got, e)
					}
				}
			}
		}
	}
}
