package guard

import (
	"bytes"
	"fmt"
	"math"
	"math/rand"
	"strings"
	"testing"

	"cuneiform/api"
	"cuneiform/dirs"
	"cuneiform/ecc"
	"cuneiform/fs"
	"cuneiform/nand"
	"cuneiform/node"
	"cuneiform/scav"
)

// whole fails the test, if not just so many blocks are there, and all whole.
func whole(t *testing.T, f *fs.FS, p, q string, blocks int) {
	t.Helper()
	if x, e := Check(f, p, q); x != (ecc.Fixed{Whole: blocks}) || e != api.OK {
		t.Errorf("Check of %q by %q: %+v, %d, not %d blocks that are whole", p, q, x, e, blocks)
	}
}

func TestExample(t *testing.T) { // P24.2
	_, f := some(t)
	b := bytes.Repeat([]byte{7}, 100)
	has(t, f, "/a", b)
	is(t, "Protect", Protect(f, "/a", "/g", 64), api.OK)
	g := bytesOf(t, f, "/g")
	if len(g) != 22 || string(g[:14]) != "\x45\x43\x43\x31\x40\x00\x64\x00\x00\x00\x00\x00\x00\x00" {
		t.Fatal("the guard is", g)
	}
	one, _ := ecc.Code(b[:64])
	two, _ := ecc.Code(b[64:])
	for k, code := range []uint32{one, two} {
		if got := g[14+4*k:][:4]; string(got) != string([]byte{byte(code), byte(code >> 8), byte(code >> 16), 0}) {
			t.Error("the code", k, "is", got)
		}
	}
	whole(t, f, "/a", "/g", 2)
}

func TestProtect(t *testing.T) { // P24.1, P24.2, P24.4
	r := rand.New(rand.NewSource(1))
	c, f := wide(t)
	x := twinsOf(t, c, f)
	for _, n := range []int{16, 17, 63, 64, 255, 256, 257, 512, 1000, 1023, 1024} {
		for _, size := range []int{0, 1, n - 1, n, n + 1, 2 * n, 2*n + 1, 1023, 1024, 1025, 1024 + n, 2048, 3000} {
			b := noise(r, size)
			x.both(func(_ *nand.Chip, f *fs.FS) { has(t, f, "/a", b) })
			is(t, "Protect", x.protects(t, "/a", "/g", n), api.OK)
			stands(t, x.f[1], "/g", guardTold(b, n))
			stands(t, x.f[1], "/a", b)
			whole(t, x.f[1], "/a", "/g", (size+n-1)/n)
		}
	}
	x.alike(t)
	free(t, x.f[1], "/a", 16)
}

func TestProtectLong(t *testing.T) { // P24.1, P24.2, P24.4: guards of 1024 bytes and more, files of 2^16 and one less
	r := rand.New(rand.NewSource(2))
	c, f := wide(t)
	x := twinsOf(t, c, f)
	for _, size := range []int{65536, 65535, 65521, 65520, 65519, 4040, 4041, 4048, 8136, 8152} {
		b := noise(r, size)
		x.both(func(_ *nand.Chip, f *fs.FS) { has(t, f, "/a", b) })
		for _, n := range []int{16, 1000, 1024} {
			is(t, "Protect", x.protects(t, "/a", "/g", n), api.OK)
			stands(t, x.f[1], "/g", guardTold(b, n))
			whole(t, x.f[1], "/a", "/g", (size+n-1)/n)
		}
	}
	x.alike(t)
}

func TestProtectOfHoles(t *testing.T) { // P24.1, P24.4: what was not written is 0
	_, f := some(t)
	for _, size := range []int{1, 64, 1024, 5000} {
		hole(t, f, "/a", size)
		is(t, "Protect", Protect(f, "/a", "/g", 100), api.OK)
		stands(t, f, "/g", guardTold(make([]byte, size), 100))
		whole(t, f, "/a", "/g", (size+99)/100)
	}
	b := make([]byte, 5000)
	for _, at := range []int{0, 700, 1023, 2048, 4000} {
		b[at] = byte(at%255 + 1)
		is(t, "to write", put(f, "/a", at, b[at:at+1]), api.OK)
		is(t, "Protect", Protect(f, "/a", "/g", 100), api.OK)
		stands(t, f, "/g", guardTold(b, 100))
		whole(t, f, "/a", "/g", 50)
	}
	if s, e := f.Stat("/a"); s.Pages > 10 || e != api.OK { // what is protected is not written
		t.Error("Stat:", s, e)
	}
}

func TestProtectOverWhatIsThere(t *testing.T) { // P24.2: it is cut first; other names, and handles that are open on it, stay
	_, f := some(t)
	has(t, f, "/a", []byte("some text"))
	has(t, f, "/g", bytes.Repeat([]byte{9}, 3000))
	is(t, "Link", f.Link("/g", "/h"), api.OK)
	was, _ := f.Stat("/g")
	h, _ := f.Open("/g", fs.Reads)
	f.Seek(h, 2, 0)
	is(t, "Protect", Protect(f, "/a", "/g", 16), api.OK)
	g := guardTold([]byte("some text"), 16)
	stands(t, f, "/h", g)
	if s, e := f.Stat("/g"); s.Inode != was.Inode || s.Links != 2 || s.Size != 18 || e != api.OK {
		t.Error("Stat:", s, e)
	}
	if b, e := f.Read(h, 99); !bytes.Equal(b, g[2:]) || e != api.OK {
		t.Error("Read:", b, e)
	}
	whole(t, f, "/a", "/h", 1)
	free(t, f, "/a", 15)
}

func TestProtectByItself(t *testing.T) { // P24.2: all its bytes are read first
	r := rand.New(rand.NewSource(3))
	for _, size := range []int{0, 9, 22, 3000} {
		c, f := some(t)
		b := noise(r, size)
		has(t, f, "/a", b)
		is(t, "Link", f.Link("/a", "/b"), api.OK)
		x := twinsOf(t, c, f)
		is(t, "Protect", x.protects(t, "/a", "//b/", 16), api.OK)
		stands(t, x.f[1], "/a", guardTold(b, 16))
		x.checks(t, "/a", "/a")
		x.mends(t, "/a", "/a")
		x.mends(t, "/a", "/b")
		x.alike(t)
	}
}

func TestBlockSizes(t *testing.T) { // P24.2, P1: this is named ahead of all else
	c, f := some(t)
	has(t, f, "/a", []byte("text"))
	has(t, f, "/g", []byte("stays"))
	before := holds(t, f)
	for _, n := range []int{math.MinInt, -1024, -64, -1, 0, 1, 8, 15, 1025, 2048, 4096, 65536 + 64, 1<<32 + 64, math.MaxInt} {
		is(t, fmt.Sprint("Protect of ", n), Protect(f, "/a", "/g", n), api.ErrArg)
		is(t, fmt.Sprint("Protect of ", n), Protect(f, "", "", n), api.ErrArg)
		is(t, fmt.Sprint("Protect of ", n), Protect(nil, "/a", "/g", n), api.ErrArg)
	}
	if holds(t, f) != before {
		t.Error("something changed")
	}
	c.Lose()
	is(t, "Protect", Protect(f, "/a", "/g", 15), api.ErrArg)
	is(t, "Protect", Protect(f, "/a", "/g", 16), api.ErrDown)
}

func TestProtectRefusedForWhatIsRead(t *testing.T) { // P24.1, P24.2, P1
	c, f := some(t)
	has(t, f, "/f", []byte("text"))
	has(t, f, "/g", []byte("stays"))
	has(t, f, "/empty", nil)
	hole(t, f, "/most", 65536)
	hole(t, f, "/long", 65537)
	hole(t, f, "/longest", 67968)
	is(t, "Mkdir", f.Mkdir("/d"), api.OK)
	x := twinsOf(t, c, f)
	before := holds(t, x.f[1])
	refused := func(p, q string, want api.Errno) {
		t.Helper()
		is(t, fmt.Sprintf("Protect of %q by %q", p, q), x.protects(t, p, q, 16), want)
	}
	for p, want := range wrongPaths {
		refused(p, "/g", want)
		refused(p, "", want) // named ahead of what is wrong of the other one
	}
	for p, want := range map[string]api.Errno{"/": api.ErrIsDir, "///": api.ErrIsDir, "/none": api.ErrNoEntry, "/long": api.ErrLong, "/longest": api.ErrLong} {
		refused(p, "/g", want)
		refused(p, "/d", want)
	}
	x.both(func(_ *nand.Chip, f *fs.FS) { uses(t, f, "/f", 16) })
	refused("/f", "/g", api.ErrHandles)
	refused("/f", "", api.ErrHandles)
	refused("/most", "/g", api.ErrHandles)
	refused("/empty", "/g", api.ErrHandles) // though there is nothing to be read
	refused("/d", "/g", api.ErrIsDir)       // these are named ahead of it
	refused("/long", "/g", api.ErrLong)
	refused("/none", "/g", api.ErrNoEntry)
	x.both(func(_ *nand.Chip, f *fs.FS) { is(t, "Close", f.Close(15), api.OK) })
	free(t, x.f[1], "/f", 1)
	if holds(t, x.f[1]) != before {
		t.Error("something changed")
	}
	// With one handle that is free all goes on.
	is(t, "Protect", x.protects(t, "/most", "/g", 1024), api.OK)
	free(t, x.f[1], "/f", 1)
}

// longDirectory is a file system with the directory /d of more than 2^16 bytes, whose last slot alone is not empty: it is of the file /d/a.
func longDirectory(t *testing.T) *fs.FS {
	t.Helper()
	c, _ := wide(t)
	tr, e := scav.Format(c, 2)
	is(t, "Format", e, api.OK)
	n, e := tr.Make(api.IFile)
	is(t, "Make", e, api.OK)
	is(t, "Set", tr.Set(n, api.Inode{Kind: api.IFile, Links: 1}), api.OK)
	slot, e := dirs.Write(api.Entry{Inode: n, Name: "a"})
	is(t, "Write", e, api.OK)
	d, e := tr.Make(api.IDir)
	is(t, "Make", e, api.OK)
	i := api.Inode{Kind: api.IDir, Links: 1}
	for at := int64(0); at <= 65536; at += 256 {
		b := make([]byte, 256)
		if at == 65536 {
			b = slot
		}
		i, e = node.Write(tr.Pool(), i, at, b)
		is(t, "Write", e, api.OK)
	}
	is(t, "Set", tr.Set(d, i), api.OK)
	is(t, "Add", tr.Add(1, "d", d), api.OK)
	is(t, "Commit", tr.Pool().Commit(scav.Text(tr.Pool().Layout(), 248)), api.OK)
	return mounts(t, c)
}

func TestALongDirectory(t *testing.T) { // P24.1: that it is a directory is named first
	f := longDirectory(t)
	if s, e := f.Stat("/d"); s.Kind != api.IDir || s.Size != 65536+16 || e != api.OK {
		t.Error("Stat:", s, e)
	}
	has(t, f, "/f", []byte("text"))
	is(t, "Protect", Protect(f, "/d", "/g", 16), api.ErrIsDir)
	for _, l := range [][2]string{{"/d", "/f"}, {"/f", "/d"}} {
		_, e := Check(f, l[0], l[1])
		is(t, "Check", e, api.ErrIsDir)
		_, e = Mend(f, l[0], l[1])
		is(t, "Mend", e, api.ErrIsDir)
	}
}

func TestProtectRefusedForWhatIsWritten(t *testing.T) { // P24.2, P1
	c, f := some(t)
	has(t, f, "/f", []byte("text"))
	is(t, "Mkdir", f.Mkdir("/d"), api.OK)
	x := twinsOf(t, c, f)
	before := holds(t, x.f[1])
	for q, want := range wrongPaths {
		is(t, fmt.Sprintf("Protect by %q", q), x.protects(t, "/f", q, 16), want)
	}
	for q, want := range map[string]api.Errno{"/": api.ErrRoot, "//": api.ErrRoot, "/d/none/g": api.ErrNoEntry} {
		is(t, fmt.Sprintf("Protect by %q", q), x.protects(t, "/f", q, 16), want)
	}
	if holds(t, x.f[1]) != before {
		t.Error("something changed")
	}
	// No inode is free.
	all, e := x.f[1].StatFS()
	is(t, "StatFS", e, api.OK)
	for k := range all.Inodes - all.UsedInodes - 1 {
		x.both(func(_ *nand.Chip, f *fs.FS) { has(t, f, fmt.Sprint("/", k), nil) })
	}
	is(t, "Protect", x.protects(t, "/f", "/0", 16), api.OK)
	is(t, "Protect", x.protects(t, "/f", "/g", 16), api.OK)
	is(t, "Protect", x.protects(t, "/f", "/h", 16), api.ErrSpace)
	free(t, x.f[1], "/f", 16)
	x.alike(t)
}

func TestWithoutAFileSystem(t *testing.T) { // P24.1, P1
	c, f := some(t)
	has(t, f, "/a", []byte("text"))
	is(t, "Protect", Protect(f, "/a", "/g", 16), api.OK)
	gone := mounts(t, c.Copy())
	is(t, "Unmount", gone.Unmount(), api.OK)
	c.Lose()
	for g, want := range map[*fs.FS]api.Errno{nil: api.ErrNil, {}: api.ErrNil, gone: api.ErrNil, f: api.ErrDown} {
		for _, p := range []string{"/a", "/none", "/", "", strings.Repeat("/", 256)} {
			for _, q := range []string{"/g", "/none", "/", ""} {
				is(t, "Protect", Protect(g, p, q, 1024), want)
				if x, e := Check(g, p, q); x != (ecc.Fixed{}) || e != want {
					t.Error("Check:", x, e, "not", want)
				}
				if x, e := Mend(g, p, q); x != (ecc.Fixed{}) || e != want {
					t.Error("Mend:", x, e, "not", want)
				}
			}
		}
	}
}

func TestProtectWithoutSpace(t *testing.T) { // P24.2: 1024 bytes by 1024 are written, what is written stays, and it is closed
	met := map[int64]int{}
	for left := range 90 {
		c, f := some(t)
		has(t, f, "/g", []byte("old"))
		hole(t, f, "/a", 65536)
		fills(t, f, "/full", left)
		x := twinsOf(t, c, f)
		is(t, "Protect", x.protects(t, "/a", "/g", 16), api.ErrSpace)
		free(t, x.f[1], "/a", 16)
		x.alike(t)
		s, _ := x.f[1].Stat("/g")
		met[s.Size]++
		stands(t, x.f[1], "/g", guardTold(make([]byte, 65536), 16)[:s.Size])
		if _, e := Check(x.f[1], "/a", "/g"); e != api.ErrEntry {
			t.Error("Check:", e)
		}
	}
	if len(met) != 6 || met[0] == 0 || met[1024] != 16 || met[5*1024] == 0 {
		t.Error("met:", met)
	}
}

func TestProtectWhereThePowerGoes(t *testing.T) { // P24.2, W4, P1
	r := rand.New(rand.NewSource(4))
	met := map[api.Errno]int{}
	c, f := some(t)
	has(t, f, "/a", noise(r, 6000))
	has(t, f, "/g", noise(r, 500))
	is(t, "Sync", f.Sync(), api.OK)
	for at := range 60 {
		for _, kind := range []int{api.Ahead, api.Within, api.Failed} {
			x := twinsOf(t, c, f)
			x.both(func(c *nand.Chip, _ *fs.FS) {
				is(t, "Script", c.Script([]api.Fault{{At: at, Kind: kind}}), api.OK)
			})
			met[x.protects(t, "/a", "/g", 16)]++
			x.alike(t)
		}
	}
	if met[api.OK] < 60 || met[api.ErrDown] < 20 || len(met) != 2 {
		t.Error("met:", met)
	}
}

func TestProtectWhereNothingCanBeChanged(t *testing.T) { // P24.2
	c, f := some(t)
	has(t, f, "/a", []byte("some text"))
	is(t, "Protect", Protect(f, "/a", "/g", 16), api.OK)
	wears(t, c, f)
	before := holds(t, f)
	is(t, "Protect", Protect(f, "/a", "/g", 17), api.ErrReadOnly)
	is(t, "Protect", Protect(f, "/a", "/new", 17), api.ErrReadOnly)
	is(t, "Protect", Protect(f, "/a", "", 17), api.ErrReadOnly) // as opening names it first
	is(t, "Protect", Protect(f, "/none", "/g", 17), api.ErrNoEntry)
	if holds(t, f) != before {
		t.Error("something changed")
	}
	whole(t, f, "/a", "/g", 1)
}
