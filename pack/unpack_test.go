package pack

import (
	"bytes"
	"fmt"
	"math/rand"
	"strings"
	"testing"

	"cuneiform/api"
	"cuneiform/fs"
	"cuneiform/nand"
)

// unpacks takes an archive out, and fails the test, if what it answers, or what there is then, is something else than when the calls that the document tells are made one by one.
func unpacks(t *testing.T, c *nand.Chip, f *fs.FS, p string, b []byte, script ...api.Fault) (*fs.FS, api.Errno) {
	t.Helper()
	chips, l := again(t, c, f)
	for k := range chips {
		is(t, "Script", chips[k].Script(script), api.OK)
	}
	want := unpackTold(l[0], p, b)
	got := Unpack(l[1], p, b)
	is(t, fmt.Sprintf("Unpack to %q", p), got, want)
	sameChips(t, chips[1], chips[0])
	for k := range l {
		if !chips[k].Up() {
			chips[k].Start()
			l[k] = mounts(t, chips[k])
		}
	}
	if a, b := holds(t, l[1]), holds(t, l[0]); a != b {
		t.Errorf("there is\n%s\nnot\n%s", a, b)
	}
	return l[1], got
}

func TestUnpack(t *testing.T) { // P20.3
	_, f := some(t)
	is(t, "Unpack", Unpack(f, "/", full().end()), api.OK)
	ab := strings.Repeat("ab", 512) + "xyz"
	want := fmt.Sprintf("/d 2\n/d/a 1 1027 %q\n/d/e 2\n/d/e/f 1 0 \"\"\n/b 1 is /d/a\n/c 1 is /d/e/f\n", ab)
	if got := tells(t, f, "/"); got != want {
		t.Errorf("there is\n%s\nnot\n%s", got, want)
	}
	free(t, f, "/c", 16)
	// To a directory, however its path is written, beside what is there.
	for _, p := range []string{"/d/e/", "//d//x", "/y"} {
		f.Mkdir(p)
		is(t, "Unpack to "+p, Unpack(f, p, begun().dir("/g").file("/g/h", 1500, stretched(0, ab[:1024])).end()), api.OK)
		want := fmt.Sprintf("/g 2\n/g/h 1 1500 %q\n", ab[:1024]+strings.Repeat("\x00", 476))
		if got := tells(t, f, p); !strings.HasSuffix(got, want) {
			t.Errorf("below %q there is\n%s\nnot\n%s", p, got, want)
		}
	}
	if got := tells(t, f, "/d/e"); !strings.HasPrefix(got, "/f 1 0") {
		t.Errorf("what was there is no more:\n%s", got)
	}
}

func TestUnpackToALongPath(t *testing.T) { // P20.3, P20.4: more bytes 47 than a path needs play no part
	c, f := fresh(t, 128, 8, 64)
	grows(t, f, "/x")
	for _, p := range []string{strings.Repeat("/", 255), "/x" + strings.Repeat("/", 253), strings.Repeat("/", 254) + "x"} {
		_, e := unpacks(t, c, f, p, full().end())
		is(t, "Unpack", e, api.OK)
	}
	// As deep as can be, and one name deeper.
	deep := ""
	for range 14 {
		deep += "/abcdefghijklm"
		is(t, "Mkdir", f.Mkdir(deep), api.OK)
	}
	_, e := unpacks(t, c, f, deep, begun().dir("/a").dir("/a/b").end())
	is(t, "Unpack", e, api.OK)
	for _, a := range []archive{begun().dir("/a").dir("/a/b").dir("/a/b/c"), begun().dir("/a").dir("/a/b").file("/a/b/c", 0), begun().file("/a", 0).dir("/b").dir("/b/c").name("/b/c/d", 0)} {
		_, e := unpacks(t, c, f, deep, a.end())
		is(t, "Unpack", e, api.ErrPath)
	}
}

func TestUnpackRefused(t *testing.T) { // P20.3, P20.6, P1
	right, torn, no := full().end(), full().end()[1:], sealed(begun())
	long := make([]byte, 1<<18+1)
	c, f := some(t)
	grows(t, f, "/x=text", "/y")
	uses(t, f, "/x", 16)
	before, strokes := "", c.Strokes()
	for _, p := range []string{"/", "", "/.", "/none", "/x", "/y"} {
		for _, g := range []*fs.FS{f, nil, {}} {
			is(t, "Unpack of what is torn", Unpack(g, p, torn), api.ErrTorn)
			is(t, "Unpack of nothing", Unpack(g, p, nil), api.ErrTorn)
			is(t, "Unpack of what is not right", Unpack(g, p, no), api.ErrTorn)
			is(t, "Unpack of what is not right", Unpack(g, p, sealed(append(begun(), 9))), api.ErrEntry)
			is(t, "Unpack of what is too long", Unpack(g, p, long), api.ErrLong)
		}
		is(t, "Unpack to nil", Unpack(nil, p, right), api.ErrNil)
		is(t, "Unpack to one without a chip", Unpack(&fs.FS{}, p, right), api.ErrNil)
	}
	for p, want := range map[string]api.Errno{"": api.ErrPath, "y": api.ErrPath, "/.": api.ErrName, "/none": api.ErrNoEntry, "/x": api.ErrNotDir, "/x/y": api.ErrNotDir} {
		is(t, "Unpack to "+p, Unpack(f, p, right), want)
		is(t, "Unpack of nothing to "+p, Unpack(f, p, begun().end()), want)
	}
	for h := range 16 {
		is(t, "Close", f.Close(h), api.OK)
	}
	before = holds(t, f)
	for what, b := range wrong() {
		is(t, "Unpack of "+what, Unpack(f, "/y", sealed(b)), api.ErrEntry)
	}
	if holds(t, f) != before || c.Strokes() != strokes {
		t.Error("something changed")
	}
	c.Lose()
	is(t, "Unpack where the power is gone", Unpack(f, "/y", right), api.ErrDown)
	is(t, "Unpack where the power is gone", Unpack(f, "none", right), api.ErrDown)
	is(t, "Unpack of what is torn", Unpack(f, "/y", torn), api.ErrTorn)
}

func TestUnpackEndsWithTheFirstError(t *testing.T) { // P20.3
	big := strings.Repeat("x", 1024)
	for _, c := range []struct {
		what  string
		there []string
		of    archive
		want  api.Errno
		left  string // what is there then
	}{
		{"a directory that is there", []string{"/b=old"}, begun().dir("/a").dir("/b").dir("/c"), api.ErrExist, "/b 1 3 \"old\"\n/a 2\n"},
		{"a file that is there", []string{"/b=old"}, begun().dir("/a").file("/b", 0).dir("/c"), api.ErrExist, "/b 1 3 \"old\"\n/a 2\n"},
		{"a file that is a directory", []string{"/b"}, begun().file("/b", 0).dir("/c"), api.ErrExist, "/b 2\n"},
		{"a name that is there", []string{"/b=old"}, begun().file("/a", 0).name("/b", 0).dir("/c"), api.ErrExist, "/b 1 3 \"old\"\n/a 1 0 \"\"\n"},
		{"a size that is too great", nil, begun().file("/a", 70000).dir("/c"), api.ErrBig, "/a 1 0 \"\"\n"},
		{"a place that is too far", nil, begun().file("/a", 71000, stretched(0, big), stretched(1024*68, big)).dir("/c"), api.ErrBig, fmt.Sprintf("/a 1 1024 %q\n", big)},
		{"a size that is just as great as can be", nil, begun().file("/a", 67968).dir("/c"), api.OK, fmt.Sprintf("/a 1 67968 %q\n/c 2\n", make([]byte, 67968))},
	} {
		chip, f := some(t)
		grows(t, f, c.there...)
		g, e := unpacks(t, chip, f, "/", c.of.end())
		is(t, "Unpack of "+c.what, e, c.want)
		if got := tells(t, g, "/"); got != c.left {
			t.Errorf("%s: there is\n%s\nnot\n%s", c.what, got, c.left)
		}
		is(t, "to put", put(g, "/z", 0, ""), api.OK)
		free(t, g, "/z", 16)
	}
}

// leaves makes a file, so great that just so many pages are left.
func leaves(t *testing.T, f *fs.FS, left int) {
	t.Helper()
	is(t, "to put", put(f, "/f", 0, ""), api.OK)
	for at := int64(0); ; at += 64 {
		s, e := f.StatFS()
		is(t, "StatFS", e, api.OK)
		if s.Pages-s.UsedPages <= left {
			return
		}
		is(t, "to put", put(f, "/f", at, "f"), api.OK)
	}
}

func TestUnpackWithoutSpace(t *testing.T) { // P20.3: at each stretch, and each entry, space may end
	r := rand.New(rand.NewSource(1))
	a := begun().dir("/a").dir("/b")
	for k := range 6 {
		text := noise(r, 2100)
		a = a.file(fmt.Sprint("/b/", k), 2200, stretched(0, text[:1024]), stretched(1024, text[1024:2048]), stretched(2048, text[2048:]+strings.Repeat("\x00", 100))).name(fmt.Sprint("/a/", k), 2+2*k)
	}
	met := map[api.Errno]int{}
	for left := 0; left < 260; left += 7 {
		c, f := some(t)
		leaves(t, f, left)
		g, e := unpacks(t, c, f, "/", a.end())
		met[e]++
		free(t, g, "/f", 16)
	}
	if met[api.OK] < 2 || met[api.ErrSpace] < 10 {
		t.Error("met:", met)
	}
	// No inode is free.
	for n := 18; n < 28; n++ {
		c, f := some(t)
		for k := range n {
			is(t, "Mkdir", f.Mkdir(fmt.Sprint("/d", k)), api.OK)
		}
		unpacks(t, c, f, "/", a.end())
	}
}

func TestUnpackWithoutAHandle(t *testing.T) { // P20.3
	_, f := some(t)
	grows(t, f, "/x=")
	uses(t, f, "/x", 15)
	is(t, "Unpack", Unpack(f, "/", begun().dir("/d").file("/d/a", 3, stretched(0, "abc")).file("/d/b", 0).end()), api.OK)
	free(t, f, "/x", 1)
	uses(t, f, "/x", 1)
	is(t, "Unpack", Unpack(f, "/", begun().dir("/e").file("/e/a", 3, stretched(0, "abc")).dir("/f").end()), api.ErrHandles)
	is(t, "Close", f.Close(3), api.OK)
	if got, want := tells(t, f, "/"), "/x 1 0 \"\"\n/d 2\n/d/a 1 3 \"abc\"\n/d/b 1 0 \"\"\n/e 2\n"; got != want {
		t.Errorf("there is\n%s\nnot\n%s", got, want)
	}
}

func TestUnpackOfTooManyNames(t *testing.T) { // P20.3
	c, f := fresh(t, 128, 32, 256)
	a := begun().file("/f", 0)
	for k := range 1000 {
		if k%100 == 0 {
			a = a.dir(fmt.Sprint("/", k))
		}
		a = a.name(fmt.Sprint("/", k/100*100, "/", k), 0)
	}
	g, e := unpacks(t, c, f, "/", a.end())
	is(t, "Unpack", e, api.ErrLinks)
	if s, e := g.Stat("/f"); s.Links != 1000 || e != api.OK {
		t.Error("Stat:", s, e)
	}
}

func TestUnpackWhereThePowerGoes(t *testing.T) { // P20.3, W4, P1
	r := rand.New(rand.NewSource(2))
	c, f := some(t)
	plants(r, f, "", 25)
	b := packed(t, f, "/")
	c, f = some(t)
	ends := 0
	for at := 0; ends == 0 && at < 400; at++ {
		for _, kind := range []int{api.Ahead, api.Within, api.Failed} {
			_, e := unpacks(t, c, f, "/", b, api.Fault{At: at, Kind: kind})
			switch {
			case e == api.OK && kind != api.Failed:
				ends++
			case e != api.OK && e != api.ErrDown:
				t.Fatal("Unpack:", e)
			}
		}
	}
	if ends == 0 {
		t.Error("the power went at each stroke")
	}
}

func TestUnpackWhereTooMuchFails(t *testing.T) { // P20.3, P1
	r := rand.New(rand.NewSource(3))
	c, f := some(t)
	plants(r, f, "", 25)
	b := packed(t, f, "/")
	for from := 0; from < 40; from += 3 {
		c, f = some(t)
		var l []api.Fault
		for k := range 40 {
			l = append(l, api.Fault{At: from + k, Kind: api.Failed})
		}
		unpacks(t, c, f, "/", b, l...)
	}
}

func TestThereAndBack(t *testing.T) { // P20.4, W7
	r := rand.New(rand.NewSource(4))
	for range 60 {
		_, f := fresh(t, 60, 8, []int{64, 128, 256}[r.Intn(3)])
		plants(r, f, "", 40)
		dirs := []string{"/"}
		for p, s := range f.Walk("/") {
			if s.Kind == api.IDir {
				dirs = append(dirs, p)
			}
		}
		p := dirs[r.Intn(len(dirs))]
		b := packed(t, f, p)
		_, g := fresh(t, 100, 8, []int{64, 128, 256}[r.Intn(3)])
		q := "/"
		if r.Intn(2) == 0 {
			q = "/here/"
			grows(t, g, "/a=beside", "/here")
		}
		if e := Unpack(g, q, b); e != api.OK {
			t.Fatal("Unpack:", e)
		}
		if got, want := tells(t, g, q), tells(t, f, p); got != want {
			t.Fatalf("there is\n%s\nnot\n%s", got, want)
		}
		if !bytes.Equal(packed(t, g, q), b) {
			t.Fatal("packed anew it is another archive")
		}
	}
}

func TestThereAndBackOfTheMost(t *testing.T) { // P20.4
	f := wide(t)
	weighs(t, f)
	b := packed(t, f, "/")
	g := wide(t)
	is(t, "Unpack", Unpack(g, "/", b), api.OK)
	if tells(t, g, "/") != tells(t, f, "/") {
		t.Error("another tree")
	}
	if !bytes.Equal(packed(t, g, "/"), b) {
		t.Error("another archive")
	}
}

func TestAnyArguments(t *testing.T) { // P1
	r := rand.New(rand.NewSource(5))
	paths := []string{"", "/", "/a", "/d", "/d/", "//", "/.", "a", "\x00", strings.Repeat("/", 300), strings.Repeat("/a", 17)}
	for range 60 {
		_, f := fresh(t, 16, 8, 64)
		f.Mkdir("/d")
		for range 40 {
			b := byChance(r).end()
			if r.Intn(4) == 0 {
				b = []byte(noise(r, r.Intn(40)))
			}
			p := paths[r.Intn(len(paths))]
			Unpack(f, p, b)
			Pack(f, p)
			Unpack(nil, p, b)
			Pack(nil, p)
		}
	}
}
