package diff

import (
	"fmt"
	"math/rand"
	"strings"
	"testing"

	"cuneiform/api"
	"cuneiform/fs"
)

// copies copies, and fails the test, if what is answered, or what there is then, is something else than when the calls that the document tells are made one by one. What there was is committed by this, and stays as it is.
func copies(t *testing.T, x two, p, q string, script ...api.Fault) (two, api.Errno) {
	t.Helper()
	l := x.again(t)
	for _, z := range l {
		is(t, "Script", z.d.Script(script), api.OK)
	}
	told, y := l[0], l[1]
	want := copyTold(t, told.f, p, told.g, q)
	got := Copy(y.f, p, y.g, q)
	is(t, fmt.Sprintf("Copy of %q to %q", p, q), got, want)
	sameChips(t, y.c, told.c)
	sameChips(t, y.d, told.d)
	told, y = told.started(t), y.started(t)
	if a, b := y.holds(t), told.holds(t); a != b {
		t.Errorf("there is\n%s\nnot\n%s", a, b)
	}
	return y, got
}

// copied fails the test, if a copy is refused, or changes are left, or something else changed than it may.
func copied(t *testing.T, x two, p, q string) {
	t.Helper()
	from, beside := tells(t, x.f, p), apart(t, x.g, q)
	is(t, fmt.Sprintf("Copy of %q to %q", p, q), Copy(x.f, p, x.g, q), api.OK)
	compares(t, x.f, p, x.g, q, api.OK)
	compares(t, x.g, q, x.f, p, api.OK)
	if got := tells(t, x.f, p); got != from {
		t.Errorf("of what was copied there is\n%s\nnot\n%s", got, from)
	}
	if got := apart(t, x.g, q); got != beside {
		t.Errorf("beside there is\n%s\nnot\n%s", got, beside)
	}
}

// apart is all that a file system has but below a directory: paths, and files with their bytes.
func apart(t *testing.T, f *fs.FS, q string) string {
	t.Helper()
	var b strings.Builder
	for p, s := range f.Walk("/") {
		if strings.HasPrefix(p, strings.TrimSuffix(clean(q), "/")+"/") {
			continue
		}
		fmt.Fprint(&b, p, " ", s.Kind)
		if s.Kind == api.IFile {
			fmt.Fprintf(&b, " %d %q", s.Size, textOf(t, f, p))
		}
		fmt.Fprintln(&b)
	}
	return b.String()
}

func TestCopy(t *testing.T) { // P21.2, P21.3
	x := both(t)
	big := strings.Repeat("x", 1024) + strings.Repeat("\x00", 1500) + "y"
	grows(t, x.f, "/z=1", "/d", "/d/b="+big, "/d/a=3", "/k", "/e=5", "/c=6", "/y", "/y/in=7", "/s=same")
	grows(t, x.g, "/n", "/c=77", "/y=", "/d", "/d/a=33", "/d/n=", "/e", "/e/deep", "/e/deep/er=", "/k", "/n/o", "/s=same")
	stat, e := x.g.Stat("/s")
	is(t, "Stat", e, api.OK)
	copied(t, x, "/", "/")
	want := fmt.Sprintf("/z 1 1 \"1\"\n/c 1 1 \"6\"\n/y 2\n/y/in 1 1 \"7\"\n/d 2\n/d/a 1 1 \"3\"\n/d/b 1 2525 %q\n/e 1 1 \"5\"\n/k 2\n/s 1 4 \"same\"\n", big)
	got := map[string]bool{}
	for _, line := range strings.SplitAfter(tells(t, x.g, "/"), "\n") {
		got[line] = true
	}
	for _, line := range strings.SplitAfter(want, "\n") {
		if !got[line] {
			t.Errorf("there is no %q", line)
		}
	}
	// What was alike was not touched, what was not written is not there.
	if s, e := x.g.Stat("/s"); s != stat || e != api.OK {
		t.Error("Stat:", s, e, "not", stat)
	}
	if s, e := x.g.Stat("/d/b"); s.Pages >= 1024/64+1500/64 || e != api.OK {
		t.Error("Stat:", s, e)
	}
	free(t, x.f, "/s", 16)
	free(t, x.g, "/s", 16)
}

func TestCopyOfEachChange(t *testing.T) { // P21.2, P21.3
	for _, c := range []struct{ first, there []string }{
		{nil, nil},
		{[]string{"/a=x"}, nil},
		{[]string{"/a="}, nil},
		{[]string{"/a", "/a/b", "/a/b/c=x"}, nil},
		{nil, []string{"/a=x"}},
		{nil, []string{"/a", "/a/b", "/a/b/c=x", "/d>/a/b/c"}},
		{[]string{"/a=x"}, []string{"/a", "/a/b", "/a/b/c="}},
		{[]string{"/a", "/a/b", "/a/b/c="}, []string{"/a=x"}},
		{[]string{"/a=xyz"}, []string{"/a=longer"}},
		{[]string{"/a=longer"}, []string{"/a=xyz"}},
		{[]string{"/a="}, []string{"/a=xyz"}},
		{[]string{"/a=xyz"}, []string{"/a="}},
		{[]string{"/a=" + strings.Repeat("\x00", 2000)}, []string{"/a=" + strings.Repeat("x", 2000)}},
		{[]string{"/a=" + strings.Repeat("x", 1024)}, []string{"/a=" + strings.Repeat("y", 1025)}},
		{[]string{"/a=x", "/b>/a", "/c>/a"}, []string{"/a=x"}},
		{[]string{"/a=x", "/b=y"}, []string{"/a=z", "/b>/a"}},
		{[]string{"/a=x", "/b=y"}, []string{"/a=y", "/b>/a"}},
		{[]string{"/a=x", "/b=y"}, []string{"/b=x", "/a>/b", "/c>/a", "/d", "/d/e>/b"}},
		{[]string{"/a=x", "/b=y", "/d", "/d/e=z"}, []string{"/b=x", "/a>/b", "/c>/a", "/d", "/d/e>/b"}},
	} {
		x := both(t)
		grows(t, x.f, c.first...)
		grows(t, x.g, c.there...)
		_, e := copies(t, x, "/", "/")
		is(t, "Copy", e, api.OK)
		copied(t, x, "/", "/")
		copied(t, x, "/", "/")
	}
}

func TestCopyWithOtherNames(t *testing.T) { // P21.2, P21.3: a file that has a name elsewhere is made anew
	x := both(t)
	grows(t, x.f, "/p", "/p/a=new", "/p/s=same", "/p/c=long text")
	grows(t, x.g, "/q", "/q/a=old", "/else", "/else/a>/q/a", "/q/s=same", "/s>/q/s", "/q/c=short")
	stat, _ := x.g.Stat("/s")
	c, _ := x.g.Stat("/q/c")
	copied(t, x, "/p", "/q")
	if got := textOf(t, x.g, "/else/a"); got != "old" {
		t.Errorf("the other name has %q", got)
	}
	if s, e := x.g.Stat("/else/a"); s.Links != 1 || e != api.OK {
		t.Error("Stat:", s, e)
	}
	if s, e := x.g.Stat("/s"); s != stat || e != api.OK { // what is alike stays one file
		t.Error("Stat:", s, e)
	}
	if s, e := x.g.Stat("/q/c"); s.Inode != c.Inode || e != api.OK { // with one name it is cut and written
		t.Error("Stat:", s, e)
	}
	// Names of one file become files of their own.
	grows(t, x.f, "/p/t>/p/a", "/p/u>/p/a")
	copied(t, x, "/p", "/q")
	for _, p := range []string{"/q/t", "/q/u", "/q/a"} {
		if s, e := x.g.Stat(p); s.Links != 1 || e != api.OK {
			t.Error("Stat:", s, e)
		}
	}
}

func TestCopyWithinOne(t *testing.T) { // P21.2, P21.3
	x := one(t)
	grows(t, x.f, "/p", "/p/a=one", "/p/b=two", "/p/d", "/p/d/e=three", "/q", "/q/a>/p/b", "/q/b>/p/b", "/q/n>/p/a", "/q/d=", "/r=beside")
	_, e := copies(t, x, "/p", "/q")
	is(t, "Copy", e, api.OK)
	copied(t, x, "/p", "/q")
	if a, b := textOf(t, x.f, "/p/b"), textOf(t, x.f, "/q/a"); a != "two" || b != "one" {
		t.Errorf("there is %q, %q", a, b)
	}
	// To where nothing is, and back.
	grows(t, x.f, "/new")
	copied(t, x, "/p", "/new")
	is(t, "Unlink", x.f.Unlink("/p/a"), api.OK)
	copied(t, x, "/new", "/p")
	copied(t, x, "/p/d", "/q/")
	if got := tells(t, x.f, "/q"); got != "/e 1 5 \"three\"\n" {
		t.Errorf("there is\n%s", got)
	}
}

func TestCopyInside(t *testing.T) { // P21.2
	like := []string{"/a", "/a/b", "/ab", "/a/b/c=x", "/f=y"}
	_, f := some(t)
	grows(t, f, like...)
	before := holds(t, f)
	uses(t, f, "/f", 16)
	for _, l := range [][2]string{{"/", "/"}, {"/", "/a"}, {"//", "/a/b/"}, {"/a", "/a"}, {"/a//", "///a"}, {"/a", "/a/b"}, {"/a", "/a/b/none"}, {"/none", "/none"}, {"/f", "/f"}, {"/none", "/none/more"}, {"/f/g", "/f"}, {"/", "/none"}, {strings.Repeat("/a", 16), "/a"}} {
		// It is named ahead of all else, as that there is no such directory, or that no handle is free.
		is(t, fmt.Sprintf("Copy of %q", l), Copy(f, l[0], f, l[1]), api.ErrInside)
		is(t, fmt.Sprintf("Copy of %q, turned round", l), Copy(f, l[1], f, l[0]), api.ErrInside)
	}
	for h := range 16 {
		is(t, "Close", f.Close(h), api.OK)
	}
	if holds(t, f) != before {
		t.Error("something changed")
	}
	for _, c := range []struct {
		p, q string
		want api.Errno
	}{
		{"/a", "/ab", api.OK}, {"/ab", "/a", api.OK}, {"/a/b", "/ab", api.OK},
		{"/none", "/some", api.ErrNoEntry}, {"/a/c", "/a/b", api.ErrNoEntry},
		{"", "", api.ErrPath}, {"a", "a", api.ErrPath}, {"/", "", api.ErrPath}, {"", "/", api.ErrPath}, {strings.Repeat("/a", 17), "/a", api.ErrPath}, {"/a", strings.Repeat("/a", 17), api.ErrPath},
		{"/.", "/.", api.ErrName}, {"/", "/.", api.ErrName}, {"/a/./b", "/a", api.ErrName}, {"/abcdefghijklmn", "/", api.ErrName},
	} {
		x := one(t)
		grows(t, x.f, like...)
		_, e := copies(t, x, c.p, c.q)
		is(t, fmt.Sprintf("Copy of %q to %q", c.p, c.q), e, c.want)
	}
	// Of two file systems none lies in the other.
	x := both(t)
	grows(t, x.f, like...)
	grows(t, x.g, like...)
	for _, l := range [][2]string{{"/a", "/a/b"}, {"/a", "/a"}, {"/", "/a"}, {"/a/b", "/a"}, {"/", "/"}} {
		copied(t, x, l[0], l[1])
	}
	_, g := some(t)
	c, f := some(t)
	c.Lose()
	is(t, "Copy where the power is gone", Copy(f, "/", f, "/"), api.ErrInside)
	is(t, "Copy where the power is gone", Copy(f, "/a", f, "/b"), api.ErrDown)
	is(t, "Copy where the power is gone", Copy(g, "/", f, "/"), api.ErrDown)
}

func TestCopyRefused(t *testing.T) { // P21.2, P1
	x := both(t)
	grows(t, x.f, "/d", "/a=x", "/d/c=1")
	grows(t, x.g, "/e", "/b=x", "/e/c=2")
	before, strokes := x.holds(t), x.d.Strokes()
	refused := func(f *fs.FS, p string, g *fs.FS, q string, want api.Errno) {
		t.Helper()
		is(t, fmt.Sprintf("Copy of %q to %q", p, q), Copy(f, p, g, q), want)
	}
	for p, want := range map[string]api.Errno{"": api.ErrPath, "d": api.ErrPath, "/.": api.ErrName, "/none": api.ErrNoEntry, "/a": api.ErrNotDir, "/a/b": api.ErrNotDir} {
		refused(x.f, p, x.g, "/e", want)
		refused(x.f, p, x.g, "", want)
		refused(x.f, p, nil, "/", want)
		refused(nil, p, x.g, p, api.ErrNil)
		refused(&fs.FS{}, p, x.g, p, api.ErrNil)
	}
	for q, want := range map[string]api.Errno{"": api.ErrPath, "/.": api.ErrName, "/a": api.ErrNoEntry, "/b": api.ErrNotDir} {
		refused(x.f, "/", x.g, q, want)
	}
	refused(x.f, "/", nil, "/", api.ErrNil)
	refused(nil, "/a", nil, "/b", api.ErrNil)
	refused(nil, "/a", nil, "/", api.ErrInside) // named ahead of ErrNil
	uses(t, x.f, "/a", 16)
	refused(x.f, "/d", x.g, "/e", api.ErrHandles)
	is(t, "Close", x.f.Close(0), api.OK)
	uses(t, x.g, "/b", 16)
	refused(x.f, "/d", x.g, "/e", api.ErrHandles)
	is(t, "Close", x.g.Close(0), api.OK)
	if x.holds(t) != before || x.d.Strokes() != strokes {
		t.Error("something changed")
	}
	x.d.Lose()
	refused(x.f, "/d", x.g, "/e", api.ErrDown)
}

func TestCopyWithoutAHandle(t *testing.T) { // P21.2: what was done ahead of the error stays
	x := both(t)
	grows(t, x.f, "/x", "/d", "/d/a=", "/y")
	grows(t, x.g, "/b=", "/o=old")
	uses(t, x.g, "/b", 16)
	is(t, "Copy", Copy(x.f, "/", x.g, "/"), api.ErrHandles)
	free(t, x.f, "/d/a", 16) // what was opened is closed
	is(t, "Close", x.g.Close(5), api.OK)
	if got, want := tells(t, x.g, "/"), "/x 2\n/d 2\n"; got != want {
		t.Errorf("there is\n%s\nnot\n%s", got, want)
	}
	is(t, "Copy", Copy(x.f, "/", x.g, "/"), api.OK)
	compares(t, x.f, "/", x.g, "/", api.OK)
	// Of one file system two handles are needed, and in f none is free.
	y := one(t)
	grows(t, y.f, "/p", "/q", "/p/d", "/p/a=x")
	uses(t, y.f, "/p/a", 15)
	is(t, "Copy", Copy(y.f, "/p", y.f, "/q"), api.ErrHandles)
	free(t, y.f, "/p/a", 1)
	uses(t, y.f, "/p/a", 1)
	is(t, "Copy", Copy(y.f, "/p", y.f, "/q"), api.ErrHandles)
	is(t, "Close", y.f.Close(0), api.OK)
	is(t, "Close", y.f.Close(1), api.OK)
	copied(t, y, "/p", "/q")
	free(t, y.f, "/p/a", 2)
}

func TestCopyTooDeep(t *testing.T) { // P21.2
	x := both(t)
	grows(t, x.f, "/a", "/a/b", "/a/b/c=x", "/z")
	deep := ""
	for k := range 15 {
		deep += "/" + strings.Repeat(string(rune('a'+k)), 13)
		is(t, "Mkdir", x.g.Mkdir(deep), api.OK)
	}
	for n, want := range map[int]api.Errno{15: api.ErrPath, 14: api.ErrPath, 13: api.OK, 12: api.OK} {
		y, e := copies(t, x, "/", deep[:14*n])
		is(t, "Copy", e, want)
		free(t, y.f, "/a/b/c", 16)
	}
	// However long the path is written.
	is(t, "Copy", Copy(x.f, "/", x.g, deep[:14*13]+strings.Repeat("/", 255-14*13)), api.OK)
	compares(t, x.f, "/", x.g, deep[:14*13], api.OK)
}

func TestCopyWithoutSpace(t *testing.T) { // P21.2: space may end at each call
	r := rand.New(rand.NewSource(1))
	met := map[api.Errno]int{}
	for left := 0; left < 200; left += 7 {
		x := both(t)
		for k := range 4 {
			grows(t, x.f, fmt.Sprint("/", k), fmt.Sprint("/", k, "/f=", noise(r, 2100)))
		}
		grows(t, x.g, "/q", "/q/old=text", "/q/0", "/q/0/f=text")
		is(t, "to put", put(x.g, "/f", 0, ""), api.OK)
		for at := int64(0); ; at += 64 {
			if s, _ := x.g.StatFS(); s.Pages-s.UsedPages <= left {
				break
			}
			is(t, "to put", put(x.g, "/f", at, "f"), api.OK)
		}
		y, e := copies(t, x, "/", "/q")
		met[e]++
		free(t, y.f, "/0/f", 16)
		free(t, y.g, "/f", 16)
	}
	if met[api.OK] < 2 || met[api.ErrSpace] < 10 {
		t.Error("met:", met)
	}
}

func TestCopyWhereThePowerGoes(t *testing.T) { // P21.2, W4, P1
	r := rand.New(rand.NewSource(2))
	for _, x := range []two{both(t), one(t)} {
		grows(t, x.f, "/p")
		grows(t, x.g, "/q")
		plants(r, x.f, "/p", 20)
		plants(r, x.g, "/q", 20)
		ends := 0
		for at := 0; ends == 0 && at < 400; at++ {
			for _, kind := range []int{api.Ahead, api.Within, api.Failed} {
				_, e := copies(t, x, "/p", "/q", api.Fault{At: at, Kind: kind})
				switch {
				case e == api.OK && kind != api.Failed:
					ends++
				case e != api.OK && e != api.ErrDown:
					t.Fatal("Copy:", e)
				}
			}
		}
		if ends == 0 {
			t.Error("the power went at each stroke")
		}
	}
}

func TestCopyToWhatIsReadOnly(t *testing.T) { // P21.2, P1
	r := rand.New(rand.NewSource(3))
	x := both(t)
	plants(r, x.f, "", 20)
	plants(r, x.g, "", 20)
	met := map[api.Errno]int{}
	for from := range 10 {
		var l []api.Fault
		for k := range 40 {
			l = append(l, api.Fault{At: from + k, Kind: api.Failed})
		}
		y, e := copies(t, x, "/", "/", l...)
		met[e]++
		if e != api.ErrReadOnly {
			continue
		}
		is(t, "Copy", Copy(y.f, "/", y.g, "/"), api.ErrReadOnly)
		free(t, y.f, firstFile(y.f), 16)
		// From one that is read-only to another one it goes on.
		_, g := some(t)
		is(t, "Copy", Copy(y.g, "/", g, "/"), api.OK)
		compares(t, y.g, "/", g, "/", api.OK)
	}
	if met[api.ErrReadOnly] == 0 {
		t.Error("met:", met)
	}
}

// firstFile is the path of the first file that there is.
func firstFile(f *fs.FS) string {
	for p, s := range f.Walk("/") {
		if s.Kind == api.IFile {
			return p
		}
	}
	return ""
}

func TestCopyByChance(t *testing.T) { // P21.2, P21.3
	r := rand.New(rand.NewSource(4))
	met := map[api.Errno]int{}
	for range 150 {
		x := byChance(t, r)
		dirs := [2][]string{{"/"}, {"/"}}
		for k, f := range []*fs.FS{x.f, x.g} {
			for p, s := range f.Walk("/") {
				if s.Kind == api.IDir {
					dirs[k] = append(dirs[k], p)
				}
			}
		}
		p, q := dirs[0][r.Intn(len(dirs[0]))], dirs[1][r.Intn(len(dirs[1]))]
		_, e := copies(t, x, p, q)
		met[e]++
		if e == api.OK {
			copied(t, x, p, q)
		}
	}
	if met[api.OK] < 50 || met[api.ErrInside] < 2 {
		t.Error("met:", met)
	}
}
