package pack

import (
	"bytes"
	"fmt"
	"math/rand"
	"strings"
	"testing"

	"cuneiform/api"
	"cuneiform/fs"
	"cuneiform/squeeze"
)

// packed is a directory's archive.
func packed(t *testing.T, f *fs.FS, p string) []byte {
	t.Helper()
	b, e := Pack(f, p)
	if e != api.OK {
		t.Fatalf("Pack of %q: %d", p, e)
	}
	return b
}

// packs fails the test, if a directory's archive is another one.
func packs(t *testing.T, f *fs.FS, p string, want []byte) {
	t.Helper()
	if b := packed(t, f, p); !bytes.Equal(b, want) {
		t.Errorf("Pack of %q:\n%q, not\n%q", p, b, want)
	}
}

// refused fails the test, if a directory is packed, or refused with another error.
func refused(t *testing.T, f *fs.FS, p string, want api.Errno) {
	t.Helper()
	if b, e := Pack(f, p); len(b) != 0 || e != want {
		t.Errorf("Pack of %q: %d bytes, %d, not %d", p, len(b), e, want)
	}
}

func TestExample(t *testing.T) { // P20.1
	_, f := some(t)
	want := sealed([]byte{67, 85, 78, 65, 0})
	packs(t, f, "/", want)
	is(t, "Mkdir", f.Mkdir("/d"), api.OK)
	packs(t, f, "/d", want)
	packs(t, f, "//d/", want)
}

func TestPackByteByByte(t *testing.T) { // P20.1
	_, f := some(t)
	grows(t, f, "/a=hello", "/b>/a", "/d", "/d/c>/a", "/d/e=777777777", "/z=")
	want := "CUNA" +
		"\x02\x02\x00/a" + "\x05\x00\x00\x00\x00\x00\x00\x00" + "\x01" + "\x00\x00\x00\x00\x00\x00\x00\x00" + "\x06\x00" + "\x04hello" + "\x00" +
		"\x03\x02\x00/b" + "\x00\x00" +
		"\x01\x02\x00/d" +
		"\x03\x04\x00/d/c" + "\x00\x00" +
		"\x02\x04\x00/d/e" + "\x09\x00\x00\x00\x00\x00\x00\x00" + "\x01" + "\x00\x00\x00\x00\x00\x00\x00\x00" + "\x05\x00" + "\x007\x85\x01\x00" + "\x00" +
		"\x02\x02\x00/z" + "\x00\x00\x00\x00\x00\x00\x00\x00" + "\x00" +
		"\x00"
	packs(t, f, "/", sealed([]byte(want)))
	// Of a directory below: its path is not ahead, and the first name is the first one of those below it.
	want = "CUNA" +
		"\x02\x02\x00/c" + "\x05\x00\x00\x00\x00\x00\x00\x00" + "\x01" + "\x00\x00\x00\x00\x00\x00\x00\x00" + "\x06\x00" + "\x04hello" + "\x00" +
		"\x02\x02\x00/e" + "\x09\x00\x00\x00\x00\x00\x00\x00" + "\x01" + "\x00\x00\x00\x00\x00\x00\x00\x00" + "\x05\x00" + "\x007\x85\x01\x00" + "\x00" +
		"\x00"
	for _, p := range []string{"/d", "/d/", "//d//"} {
		packs(t, f, p, sealed([]byte(want)))
	}
}

func TestPackOfStretches(t *testing.T) { // P20.1
	hole := strings.Repeat("\x00", 1024)
	full := strings.Repeat("full", 256)
	for _, c := range []struct {
		text string
		size int64
		want []piece
	}{
		{"", 0, nil},
		{"", 1, nil},
		{"", 5000, nil},
		{"x", 1, []piece{stretched(0, "x")}},
		{"x", 1023, []piece{stretched(0, "x"+hole[:1022])}},
		{"x", 1024, []piece{stretched(0, "x"+hole[:1023])}},
		{"x", 1025, []piece{stretched(0, "x"+hole[:1023])}},
		{full, 1024, []piece{stretched(0, full)}},
		{full + "\x00", 1025, []piece{stretched(0, full)}},
		{full + "y", 1025, []piece{stretched(0, full), stretched(1024, "y")}},
		{hole + "y", 1025, []piece{stretched(1024, "y")}},
		{hole + hole[1:] + "y", 2048, []piece{stretched(1024, hole[1:]+"y")}},
		{hole + full + hole + "z", 4000, []piece{stretched(1024, full), stretched(3072, "z"+hole[:927])}},
		{full + hole + hole + full, 4096, []piece{stretched(0, full), stretched(3072, full)}},
	} {
		_, f := fresh(t, 44, 8, 256)
		is(t, "to put", put(f, "/a", 0, c.text), api.OK)
		is(t, "Truncate", f.Truncate("/a", c.size), api.OK)
		packs(t, f, "/", begun().file("/a", uint64(c.size), c.want...).end())
	}
}

func TestPackOfAGreatFile(t *testing.T) { // P20.1
	f := wide(t)
	is(t, "to put", put(f, "/a", 32<<20, "far"), api.OK)
	is(t, "to put", put(f, "/a", 1<<20-1, "over"), api.OK)
	s, e := f.Stat("/a")
	is(t, "Stat", e, api.OK)
	packs(t, f, "/", begun().file("/a", uint64(s.Size),
		stretched(1<<20-1024, strings.Repeat("\x00", 1023)+"o"),
		stretched(1<<20, "ver"+strings.Repeat("\x00", 1021)),
		stretched(32<<20, "far")).end())
}

func TestPackOfNames(t *testing.T) { // P20.1
	_, f := some(t)
	// Numbers are those of the files' first entries, in the order that Walk tells; another name elsewhere plays no part.
	grows(t, f, "/p", "/p/x=one", "/q", "/q/a", "/q/b=two", "/q/a/c>/q/b", "/q/d>/p/x", "/q/e>/q/b", "/q/f>/p/x", "/q/a/g>/p/x")
	packs(t, f, "/q", begun().
		dir("/a").
		file("/a/c", 3, stretched(0, "two")).
		file("/a/g", 3, stretched(0, "one")).
		name("/b", 1).
		name("/d", 2).
		name("/e", 1).
		name("/f", 2).end())
	packs(t, f, "/p", begun().file("/x", 3, stretched(0, "one")).end())
}

func TestPackOfLongPaths(t *testing.T) { // P20.1
	_, f := fresh(t, 128, 8, 64)
	p := ""
	a := begun()
	for k := range 16 {
		p += "/" + strings.Repeat(string(rune('a'+k)), 13)
		is(t, "Mkdir", f.Mkdir(p), api.OK)
		a = a.dir(p)
	}
	packs(t, f, "/", a.end())
	packs(t, f, p[:14], begunBelow(p, 1).end())
	packs(t, f, p, begun().end())
	packs(t, f, p+strings.Repeat("/", 255-len(p)), begun().end())
}

// begunBelow is an archive of a path's directories behind the first ones.
func begunBelow(p string, from int) archive {
	a := begun()
	l, _ := names(p)
	for k := from; k < len(l); k++ {
		a = a.dir("/" + strings.Join(l[from:k+1], "/"))
	}
	return a
}

func TestPackOfNoDirectory(t *testing.T) { // P20.1, P1
	refused(t, nil, "/", api.ErrNil)
	refused(t, nil, "", api.ErrNil)
	refused(t, &fs.FS{}, "/", api.ErrNil)
	c, f := some(t)
	grows(t, f, "/d", "/a=x")
	for p, want := range map[string]api.Errno{
		"": api.ErrPath, "d": api.ErrPath, "/" + strings.Repeat("/", 255): api.ErrPath, strings.Repeat("/d", 17): api.ErrPath,
		"/.": api.ErrName, "/abcdefghijklmn": api.ErrName, "/d\x00": api.ErrName,
		"/b": api.ErrNoEntry, "/d/d": api.ErrNoEntry, "/a": api.ErrNotDir, "/a/b": api.ErrNotDir,
	} {
		refused(t, f, p, want)
	}
	uses(t, f, "/a", 16)
	refused(t, f, "/a", api.ErrNotDir) // ahead of ErrHandles
	c.Lose()
	refused(t, f, "/", api.ErrDown)
	refused(t, f, "", api.ErrDown)
	c.Start()
	f = mounts(t, c)
	is(t, "Unmount", f.Unmount(), api.OK)
	refused(t, f, "/", api.ErrNil)
}

func TestPackWithoutAHandle(t *testing.T) { // P20.1
	_, f := some(t)
	grows(t, f, "/a=", "/d", "/d/e", "/d/e/f=text")
	uses(t, f, "/a", 15)
	packs(t, f, "/", begun().file("/a", 0).dir("/d").dir("/d/e").file("/d/e/f", 4, stretched(0, "text")).end())
	free(t, f, "/a", 1)
	uses(t, f, "/a", 1)
	refused(t, f, "/", api.ErrHandles)
	refused(t, f, "/d", api.ErrHandles)
	refused(t, f, "/d/e", api.ErrHandles)
	is(t, "Truncate", f.Truncate("/d/e/f", 0), api.OK)
	refused(t, f, "/d", api.ErrHandles) // of an empty file, too
	is(t, "Unlink", f.Unlink("/d/e/f"), api.OK)
	packs(t, f, "/d", begun().dir("/e").end())
	packs(t, f, "/d/e", begun().end())
}

// crowd makes directories below the root, with a file of 62 names more in each, and is their archive, as far as it is put together: of so many entries.
func crowd(t *testing.T, f *fs.FS, n int) archive {
	t.Helper()
	a := begun()
	for k := 0; k < n; k += 64 {
		p := fmt.Sprintf("/%02d", k/64)
		grows(t, f, p, p+"/f=")
		a = a.dir(p).file(p+"/f", 0)
		for i := range 62 {
			q := fmt.Sprintf("%s/%d", p, i)
			grows(t, f, q+">"+p+"/f")
			a = a.name(q, k+1)
		}
	}
	return a
}

func TestPackOfManyEntries(t *testing.T) { // P20.1, P20.2
	f := wide(t)
	a := crowd(t, f, 1<<12)
	packs(t, f, "/", a.end())
	if l, e := List(a.end()); len(l) != 1<<12 || e != api.OK {
		t.Error("List:", len(l), e)
	}
	is(t, "Mkdir", f.Mkdir("/63/more"), api.OK)
	refused(t, f, "/", api.ErrLong)
	if l, e := List(a.dir("/63/more").end()); len(l) != 0 || e != api.ErrEntry {
		t.Error("List:", len(l), e)
	}
	is(t, "Rmdir", f.Rmdir("/63/more"), api.OK)
	packs(t, f, "/", a.end())
	// Another name is an entry, too.
	is(t, "Unlink", f.Unlink("/63/0"), api.OK)
	is(t, "to put", put(f, "/z", 0, "z"), api.OK)
	if l, e := List(packed(t, f, "/")); len(l) != 1<<12 || e != api.OK {
		t.Error("List:", len(l), e)
	}
	is(t, "Link", f.Link("/z", "/zz"), api.OK)
	refused(t, f, "/", api.ErrLong)
	// That no handle is free is named first.
	uses(t, f, "/z", 16)
	refused(t, f, "/", api.ErrHandles)
}

// weighs makes a tree of which the archive has just as many bytes as may be.
func weighs(t *testing.T, f *fs.FS) {
	t.Helper()
	r := rand.New(rand.NewSource(1))
	left := 1<<18 - 9
	for k := 0; left > 3000; k++ {
		p := fmt.Sprintf("/f%d", k)
		text := noise(r, min(left-2000, 9000))
		a := begun()
		var l []piece
		for from := 0; from < len(text); from += 1024 {
			l = append(l, stretched(uint64(from), text[from:min(from+1024, len(text))]))
		}
		is(t, "to put", put(f, p, 0, text), api.OK)
		left -= len(a.file(p, uint64(len(text)), l...)) - 4
	}
	// A directory at the root takes four bytes, and those of its name.
	for k := 0; left > 17; k++ {
		n := min(13, left-17+8)
		name := fmt.Sprintf("d%03d", k) + strings.Repeat("x", 9)
		is(t, "Mkdir", f.Mkdir("/"+name[:max(4, n)]), api.OK)
		left -= 4 + max(4, n)
	}
	is(t, "Mkdir", f.Mkdir("/"+strings.Repeat("z", left-4)), api.OK)
}

func TestPackOfManyBytes(t *testing.T) { // P20.1, P20.2
	f := wide(t)
	weighs(t, f)
	b := packed(t, f, "/")
	if len(b) != 1<<18 {
		t.Fatal("it has so many bytes:", len(b))
	}
	want, count := packTold(f, "/", func(p string) string { return textOf(t, f, p) })
	if !bytes.Equal(b, want) {
		t.Error("another archive")
	}
	if l, e := List(b); len(l) != count || e != api.OK {
		t.Error("List:", len(l), e)
	}
	var last string
	for p := range f.Walk("/") {
		last = p
	}
	is(t, "Rename", f.Rename(last, last+"z"), api.OK)
	refused(t, f, "/", api.ErrLong)
	// That no handle is free is named first.
	uses(t, f, "/f0", 16)
	refused(t, f, "/", api.ErrHandles)
	for h := range 16 {
		is(t, "Close", f.Close(h), api.OK)
	}
	is(t, "Unlink", f.Unlink("/f0"), api.OK)
	if b := packed(t, f, "/"); len(b) >= 1<<18 {
		t.Error("it has so many bytes:", len(b))
	}
}

func TestPackOfFilesBehindTooMuch(t *testing.T) { // P20.1: that no handle is free is named first, wherever the file is
	f := wide(t)
	deep := ""
	for range 14 {
		deep += "/abcdefghijklm"
		is(t, "Mkdir", f.Mkdir(deep), api.OK)
	}
	for k := range 35 {
		p := fmt.Sprintf("%s/%011d", deep, k)
		is(t, "Mkdir", f.Mkdir(p), api.OK)
		for i := range 35 {
			is(t, "Mkdir", f.Mkdir(fmt.Sprintf("%s/%013d", p, i)), api.OK)
		}
	}
	refused(t, f, "/", api.ErrLong)
	grows(t, f, "/z=")
	refused(t, f, "/", api.ErrLong)
	uses(t, f, "/z", 16)
	refused(t, f, "/", api.ErrHandles)
	refused(t, f, "/abcdefghijklm", api.ErrLong)
}

func TestPackOfFarTooManyBytes(t *testing.T) { // P20.1: also where a single file is too long
	f := wide(t)
	is(t, "to put", put(f, "/a", 0, noise(rand.New(rand.NewSource(2)), 1<<18)), api.OK)
	refused(t, f, "/", api.ErrLong)
	free(t, f, "/a", 16)
}

func TestPackChangesNothing(t *testing.T) { // P20.1
	c, f := some(t)
	grows(t, f, "/d", "/d/a=abc", "/d/b>/d/a", "/c=some more")
	for _, p := range []string{"/d/a", "/d/b", "/c"} {
		h, e := f.Open(p, fs.Reads|fs.Writes)
		is(t, "Open", e, api.OK)
		_, e = f.Read(h, 2)
		is(t, "Read", e, api.OK)
	}
	before, strokes := holds(t, f), c.Strokes()
	for _, p := range []string{"/", "/d", "/c", "/x"} {
		Pack(f, p)
	}
	if holds(t, f) != before || c.Strokes() != strokes {
		t.Error("something changed")
	}
	for h := range 3 {
		if at, e := f.Seek(h, 0, 1); at != 2 || e != api.OK {
			t.Error("the place:", at, e)
		}
	}
	free(t, f, "/c", 13)
}

func TestPackOfWhatIsReadOnly(t *testing.T) { // P20.1
	c, f := some(t)
	grows(t, f, "/a=abc", "/d")
	is(t, "Sync", f.Sync(), api.OK)
	var l []api.Fault
	for k := range 60 {
		l = append(l, api.Fault{At: k, Kind: api.Failed})
	}
	is(t, "Script", c.Script(l), api.OK)
	is(t, "Mkdir", f.Mkdir("/e"), api.OK)
	is(t, "Sync", f.Sync(), api.ErrReadOnly)
	b := begun().file("/a", 3, stretched(0, "abc")).dir("/d").dir("/e").end()
	packs(t, f, "/", b)
	is(t, "Unpack", Unpack(f, "/d", b), api.ErrReadOnly)
	is(t, "Unpack of nothing", Unpack(f, "/d", begun().end()), api.OK)
}

func TestPackByChance(t *testing.T) { // P20.1
	r := rand.New(rand.NewSource(3))
	for range 60 {
		_, f := fresh(t, 60, 8, []int{64, 128, 256}[r.Intn(3)])
		plants(r, f, "", 40)
		text := func(p string) string { return textOf(t, f, p) }
		want, _ := packTold(f, "/", text)
		packs(t, f, "/", want)
		for p, s := range f.Walk("/") {
			if s.Kind == api.IDir {
				want, _ := packTold(f, p, text)
				packs(t, f, p, want)
			}
		}
	}
}

func TestAnswerIsNewMemory(t *testing.T) { // P20.1, P20.2
	_, f := some(t)
	grows(t, f, "/a=abc", "/d")
	b := packed(t, f, "/")
	kept := bytes.Clone(b)
	l, e := List(b)
	is(t, "List", e, api.OK)
	if !bytes.Equal(b, kept) {
		t.Error("List changed what was handed in")
	}
	clear(b)
	if l[0] != (Item{2, "/a", 3, 0}) || l[1] != (Item{1, "/d", 0, 0}) {
		t.Error("what List answered is not its own:", l)
	}
	packs(t, f, "/", kept)
	is(t, "Unpack", Unpack(f, "/d", kept), api.OK)
	if !bytes.Equal(kept, sealed(kept[:len(kept)-4])) {
		t.Error("Unpack changed what was handed in")
	}
}

func TestSqueezedAsSqueezeDoes(t *testing.T) { // P20.1
	_, f := fresh(t, 60, 8, 256)
	text := strings.Repeat("some words that come again, ", 50)
	grows(t, f, "/a="+text)
	l, e := readTold(packed(t, f, "/"))
	is(t, "to read", e, api.OK)
	for k, s := range l[0].pieces {
		want, _ := squeeze.Squeeze([]byte(text[1024*k : min(1024*k+1024, len(text))]))
		if !bytes.Equal(s.squeezed, want) {
			t.Error("the stretch", k)
		}
	}
}
