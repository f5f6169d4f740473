package guard

import (
	"bytes"
	"fmt"
	"math/rand"
	"testing"

	"cuneiform/api"
	"cuneiform/ecc"
	"cuneiform/fs"
	"cuneiform/nand"
)

// guarded are twins with a file /a of these bytes, which /g guards.
func guarded(t *testing.T, b []byte, n int) *twins {
	t.Helper()
	c, f := wide(t)
	has(t, f, "/a", b)
	is(t, "Protect", Protect(f, "/a", "/g", n), api.OK)
	return twinsOf(t, c, f)
}

// turns turns a bit of a file of both.
func (x *twins) turns(t *testing.T, p string, bit int) {
	t.Helper()
	x.both(func(_ *nand.Chip, f *fs.FS) { turn(t, f, p, bit) })
}

// finds fails the test, if Check or Mend finds something else, or they are not as the document says.
func (x *twins) finds(t *testing.T, want ecc.Fixed) {
	t.Helper()
	if got, e := x.checks(t, "/a", "/g"); got != want || e != api.OK {
		t.Errorf("Check: %+v, %d, not %+v", got, e, want)
	}
	if got, e := x.mends(t, "/a", "/g"); got != want || e != api.OK {
		t.Errorf("Mend: %+v, %d, not %+v", got, e, want)
	}
}

func TestEachBit(t *testing.T) { // P24.3, P24.5
	b := noise(rand.New(rand.NewSource(1)), 50)
	x := guarded(t, b, 16)
	for bit := range 400 {
		x.turns(t, "/a", bit)
		x.finds(t, ecc.Fixed{Whole: 3, Turned: 1})
		stands(t, x.f[1], "/a", b)
		whole(t, x.f[1], "/a", "/g", 4)
	}
	x.alike(t)
	free(t, x.f[1], "/a", 16)
}

func TestEachBitOfTheCodes(t *testing.T) { // P24.3
	b := noise(rand.New(rand.NewSource(2)), 50)
	x := guarded(t, b, 16)
	for bit := range 4 * 32 {
		x.turns(t, "/g", 8*14+bit)
		if bit%32 < 17 {
			x.finds(t, ecc.Fixed{Whole: 3, Code: 1})
		} else {
			x.finds(t, ecc.Fixed{Whole: 3, Lost: 1})
		}
		x.turns(t, "/g", 8*14+bit)
		stands(t, x.f[1], "/a", b)
	}
	x.alike(t)
}

func TestSomeBlocks(t *testing.T) { // P24.3, P24.4, P24.5
	r := rand.New(rand.NewSource(3))
	for _, n := range []int{16, 17, 100, 256, 1000, 1023, 1024} {
		for _, size := range []int{1, n, n + 1, 5 * n, 5*n + 7, 9000} {
			b := noise(r, size)
			x := guarded(t, b, n)
			blocks := (size + n - 1) / n
			whole(t, x.f[1], "/a", "/g", blocks)
			turned := 0
			for k := range blocks {
				if r.Intn(3) == 0 && turned < 40 {
					x.turns(t, "/a", 8*k*n+r.Intn(8*min(n, size-k*n)))
					turned++
				}
			}
			x.finds(t, ecc.Fixed{Whole: blocks - turned, Turned: turned})
			stands(t, x.f[1], "/a", b)
			whole(t, x.f[1], "/a", "/g", blocks)
			x.alike(t)
		}
	}
}

func TestTheLongest(t *testing.T) { // P24.3, P24.5
	r := rand.New(rand.NewSource(4))
	b := noise(r, 65536)
	for _, n := range []int{16, 1024} {
		x := guarded(t, b, n)
		x.turns(t, "/a", 0)
		x.turns(t, "/a", 8*65535+7)
		x.turns(t, "/a", 8*30000)
		x.finds(t, ecc.Fixed{Whole: 65536/n - 3, Turned: 3})
		stands(t, x.f[1], "/a", b)
		x.alike(t)
	}
}

func TestLostBlocks(t *testing.T) { // P24.3: they are left as they are, and those that had a bit turned are mended
	b := noise(rand.New(rand.NewSource(5)), 200)
	x := guarded(t, b, 32)
	x.turns(t, "/a", 8*32)
	x.turns(t, "/a", 8*32+9)
	x.finds(t, ecc.Fixed{Whole: 6, Lost: 1})
	x.turns(t, "/a", 8*70)
	x.turns(t, "/a", 8*199)
	x.turns(t, "/g", 8*14+1) // a digit of the first code
	x.finds(t, ecc.Fixed{Whole: 3, Turned: 2, Code: 1, Lost: 1})
	b[32] ^= 1
	b[33] ^= 2
	stands(t, x.f[1], "/a", b)
	x.finds(t, ecc.Fixed{Whole: 5, Code: 1, Lost: 1})
	x.alike(t)
}

func TestAnEmptyFile(t *testing.T) { // P24.3, P24.4
	x := guarded(t, nil, 16)
	stands(t, x.f[1], "/g", []byte("\x45\x43\x43\x31\x10\x00\x00\x00\x00\x00\x00\x00\x00\x00"))
	x.finds(t, ecc.Fixed{})
}

func TestWhatDoesNotFit(t *testing.T) { // P24.3, P1
	b := noise(rand.New(rand.NewSource(6)), 100)
	x := guarded(t, b, 64)
	right := guardTold(b, 64)
	of := func(n int) []byte { return guardTold(b, n) }
	l := [][]byte{nil, {69}, []byte("ECC1"), right[:13], right[:14], right[:18], right[:21], right[1:], append(of(64), 0), append(of(64), 0, 0, 0, 0), append(of(64), right...),
		b, guardTold(b[:99], 64), guardTold(append(b, 1), 64), guardTold(nil, 64), guardTold(noise(rand.New(rand.NewSource(7)), 65536+100), 64),
		of(15), of(14), of(1), of(1025), of(2048), of(4096), of(65535), append([]byte("ECC1\x00\x00"), right[6:]...),
		append(of(15)[:14], right[14:]...), append(of(1025)[:14], right[14:18]...), append(of(1024)[:14], right[14:]...), append(of(33)[:14], right[14:]...)}
	for k := range 14 {
		for _, d := range []byte{1, 128} {
			if k == 4 && d == 1 {
				continue // blocks of 65 bytes: it fits
			}
			g := of(64)
			g[k] ^= d
			l = append(l, g)
		}
	}
	for _, g := range l {
		x.both(func(_ *nand.Chip, f *fs.FS) { has(t, f, "/g", g) })
		if found, e := x.checks(t, "/a", "/g"); found != (ecc.Fixed{}) || e != api.ErrEntry {
			t.Errorf("Check by %s: %+v, %d", short(g), found, e)
		}
		if found, e := x.mends(t, "/a", "/g"); found != (ecc.Fixed{}) || e != api.ErrEntry {
			t.Errorf("Mend by %s: %+v, %d", short(g), found, e)
		}
	}
	stands(t, x.f[1], "/a", b)
	x.alike(t)
	free(t, x.f[1], "/a", 16)
	// Guards with other codes, or of other blocks, fit all the same.
	for _, g := range [][]byte{of(16), of(50), of(65), of(100), of(1024), append(of(64)[:14], make([]byte, 8)...), append(of(64)[:14], bytes.Repeat([]byte{255}, 8)...)} {
		x.both(func(_ *nand.Chip, f *fs.FS) { has(t, f, "/g", g) })
		_, e := x.checks(t, "/a", "/g")
		is(t, "Check by "+short(g), e, api.OK)
	}
}

func TestTheFileIsCut(t *testing.T) { // P24.3
	b := noise(rand.New(rand.NewSource(8)), 100)
	x := guarded(t, b, 64)
	for _, size := range []int64{99, 101, 128, 64, 0, 65537} {
		x.both(func(_ *nand.Chip, f *fs.FS) { is(t, "Truncate", f.Truncate("/a", size), api.OK) })
		want := api.ErrEntry
		if size > 65536 {
			want = api.ErrLong
		}
		_, e := x.checks(t, "/a", "/g")
		is(t, "Check", e, want)
		_, e = x.mends(t, "/a", "/g")
		is(t, "Mend", e, want)
	}
	// With its size again it fits again, though what it had is gone.
	x.both(func(_ *nand.Chip, f *fs.FS) { is(t, "Truncate", f.Truncate("/a", 100), api.OK) })
	_, e := x.checks(t, "/a", "/g")
	is(t, "Check", e, api.OK)
}

func TestMendRefused(t *testing.T) { // P24.1, P24.3, P1: what is wrong of the file is named ahead of what is wrong of the guard
	b := noise(rand.New(rand.NewSource(9)), 100)
	x := guarded(t, b, 64)
	x.both(func(_ *nand.Chip, f *fs.FS) {
		has(t, f, "/f", []byte("text"))
		has(t, f, "/empty", nil)
		hole(t, f, "/long", 65537)
		is(t, "Mkdir", f.Mkdir("/d"), api.OK)
		turn(t, f, "/a", 5)
	})
	before := holds(t, x.f[1])
	refused := func(p, q string, want api.Errno) {
		t.Helper()
		_, e := x.checks(t, p, q)
		is(t, fmt.Sprintf("Check of %q by %q", p, q), e, want)
		_, e = x.mends(t, p, q)
		is(t, fmt.Sprintf("Mend of %q by %q", p, q), e, want)
	}
	wrong := map[string]api.Errno{"/": api.ErrIsDir, "//": api.ErrIsDir, "/none": api.ErrNoEntry, "/long": api.ErrLong, "/d/none": api.ErrNoEntry}
	for p, want := range wrongPaths {
		wrong[p] = want
	}
	for p, want := range wrong {
		refused(p, "/g", want)
		refused("/a", p, want)
		for q := range wrong {
			refused(p, q, want)
		}
		refused(p, "/f", want)
		refused("/f", p, want)
	}
	refused("/a", "/a", api.ErrEntry)
	refused("/a", "/f", api.ErrEntry)
	refused("/g", "/a", api.ErrEntry)
	refused("/f", "/g", api.ErrEntry)
	x.both(func(_ *nand.Chip, f *fs.FS) { uses(t, f, "/a", 16) })
	refused("/a", "/g", api.ErrHandles)
	refused("/a", "/none", api.ErrHandles)
	refused("/empty", "/none", api.ErrHandles) // though there is nothing to be read
	refused("/empty", "/empty", api.ErrHandles)
	refused("/none", "/g", api.ErrNoEntry)
	refused("/long", "/g", api.ErrLong)
	refused("/d", "/g", api.ErrIsDir)
	x.both(func(_ *nand.Chip, f *fs.FS) { is(t, "Close", f.Close(7), api.OK) })
	free(t, x.f[1], "/a", 1)
	if holds(t, x.f[1]) != before {
		t.Error("something changed")
	}
	// With one handle that is free all goes on; places of others stay.
	x.finds(t, ecc.Fixed{Whole: 1, Turned: 1})
	free(t, x.f[1], "/a", 1)
	if got, e := x.f[1].Read(3, 99); !bytes.Equal(got, b[:99]) || e != api.OK {
		t.Error("Read:", got, e)
	}
}

func TestCheckChangesNothing(t *testing.T) { // P24.5
	c, f := some(t)
	b := noise(rand.New(rand.NewSource(10)), 500)
	has(t, f, "/a", b)
	is(t, "Protect", Protect(f, "/a", "/g", 64), api.OK)
	for bit := 3; bit < 4000; bit += 1000 {
		turn(t, f, "/a", bit)
	}
	b = bytesOf(t, f, "/a")
	before, strokes := holds(t, f), c.Strokes()
	for range 40 {
		if x, e := Check(f, "/a", "/g"); x != (ecc.Fixed{Whole: 4, Turned: 4}) || e != api.OK {
			t.Error("Check:", x, e)
		}
	}
	if holds(t, f) != before || c.Strokes() != strokes {
		t.Error("something changed")
	}
	stands(t, f, "/a", b)
	free(t, f, "/a", 16)
}

func TestBlocksAreWrittenWhole(t *testing.T) { // P24.3, P24.5: pages that were not there, too, and no others
	for _, c := range []struct {
		n, at, first, behind int // of 64 bytes a page: how many there are at first, and behind it, those of pointers with them
	}{{16, 24, 1, 1}, {64, 96, 1, 1}, {100, 150, 1, 3}, {256, 384, 2, 5}, {1024, 1500, 2, 17}} {
		_, f := some(t)
		hole(t, f, "/a", 3000)
		is(t, "Protect", Protect(f, "/a", "/g", c.n), api.OK)
		turn(t, f, "/a", 8*c.at)
		if s, e := f.Stat("/a"); s.Pages != c.first || e != api.OK {
			t.Error("of blocks of", c.n, "Stat:", s, e)
		}
		if x, e := Mend(f, "/a", "/g"); x.Turned != 1 || x.Whole != (3000+c.n-1)/c.n-1 || e != api.OK {
			t.Error("Mend:", x, e)
		}
		if s, e := f.Stat("/a"); s.Pages != c.behind || s.Size != 3000 || e != api.OK {
			t.Error("of blocks of", c.n, "Stat:", s, e)
		}
		stands(t, f, "/a", make([]byte, 3000))
		was, _ := f.Stat("/a")
		if x, e := Mend(f, "/a", "/g"); x.Turned != 0 || e != api.OK {
			t.Error("Mend:", x, e)
		}
		if s, e := f.Stat("/a"); s != was || e != api.OK {
			t.Error("Stat:", s, e)
		}
	}
}

func TestMendWithoutSpace(t *testing.T) { // P24.3, P24.5: what was written ahead of it stays, and it is closed
	met := map[[2]int]int{}
	for left := range 60 {
		c, f := some(t)
		hole(t, f, "/a", 4000)
		is(t, "Protect", Protect(f, "/a", "/g", 1000), api.OK)
		for at := range 4 {
			turn(t, f, "/a", 8*(1000*at+400))
		}
		fills(t, f, "/full", left)
		x := twinsOf(t, c, f)
		_, e := x.mends(t, "/a", "/g")
		free(t, x.f[1], "/a", 16)
		found, err := x.checks(t, "/a", "/g")
		is(t, "Check", err, api.OK)
		if (found.Turned == 0) != (e == api.OK) {
			t.Error("Mend:", e, "and then Check:", found)
		}
		// Those ahead of the first one that can't be written are mended.
		for k, c := range bytesOf(t, x.f[1], "/a") {
			if want := k%1000 == 400 && k/1000 >= 4-found.Turned; (c == 1) != want {
				t.Error("the byte", k, "is", c)
			}
		}
		met[[2]int{int(e), found.Turned}]++
		x.alike(t)
	}
	if met[[2]int{67, 4}] == 0 || met[[2]int{67, 3}] == 0 || met[[2]int{67, 2}] == 0 || met[[2]int{67, 1}] == 0 || met[[2]int{0, 0}] == 0 || len(met) != 5 {
		t.Error("met:", met)
	}
}

func TestMendWhereThePowerGoes(t *testing.T) { // P24.3, W4, P1
	r := rand.New(rand.NewSource(11))
	met := map[api.Errno]int{}
	c, f := some(t)
	b := noise(r, 5000)
	has(t, f, "/a", b)
	is(t, "Protect", Protect(f, "/a", "/g", 50), api.OK)
	for k := range 100 {
		if k%3 == 0 {
			b[50*k] ^= 4
		}
	}
	has(t, f, "/b", b)
	is(t, "Rename", f.Rename("/b", "/a"), api.OK)
	is(t, "Sync", f.Sync(), api.OK)
	for at := range 60 {
		for _, kind := range []int{api.Ahead, api.Within, api.Failed} {
			x := twinsOf(t, c, f)
			x.both(func(c *nand.Chip, _ *fs.FS) {
				is(t, "Script", c.Script([]api.Fault{{At: at, Kind: kind}}), api.OK)
			})
			_, e := x.mends(t, "/a", "/g")
			met[e]++
			x.alike(t)
			// It goes on from where it is.
			if _, e := Mend(x.f[1], "/a", "/g"); e != api.OK {
				t.Error("Mend:", e)
			}
			whole(t, x.f[1], "/a", "/g", 100)
		}
	}
	if met[api.OK] < 60 || met[api.ErrDown] < 20 || len(met) != 2 {
		t.Error("met:", met)
	}
}

func TestMendWhereNothingCanBeChanged(t *testing.T) { // P24.3: nothing is written where no bit was turned
	c, f := some(t)
	b := noise(rand.New(rand.NewSource(12)), 100)
	has(t, f, "/a", b)
	has(t, f, "/b", b)
	is(t, "Protect", Protect(f, "/a", "/g", 16), api.OK)
	turn(t, f, "/b", 77)
	has(t, f, "/lost", b)
	turn(t, f, "/lost", 77)
	turn(t, f, "/lost", 78)
	wears(t, c, f)
	before := holds(t, f)
	for p, want := range map[string]ecc.Fixed{"/a": {Whole: 7}, "/b": {Whole: 6, Turned: 1}, "/lost": {Whole: 6, Lost: 1}} {
		if x, e := Check(f, p, "/g"); x != want || e != api.OK {
			t.Error("Check of", p, x, e)
		}
		x, e := Mend(f, p, "/g")
		if want.Turned > 0 {
			want = ecc.Fixed{}
			is(t, "Mend", e, api.ErrReadOnly)
		} else {
			is(t, "Mend", e, api.OK)
		}
		if x != want {
			t.Error("Mend of", p, x)
		}
	}
	if holds(t, f) != before {
		t.Error("something changed")
	}
	free(t, f, "/a", 16)
}

func TestWhatIsGuardedIsMended(t *testing.T) { // W6: bad blocks within the reserve are not seen
	r := rand.New(rand.NewSource(13))
	for range 20 {
		c, f := some(t)
		is(t, "Script", c.Script([]api.Fault{{At: r.Intn(40), Kind: api.Failed}, {At: 40 + r.Intn(100), Kind: api.Failed}}), api.OK)
		b := noise(r, 3000)
		has(t, f, "/a", b)
		is(t, "Protect", Protect(f, "/a", "/g", 100), api.OK)
		is(t, "Sync", f.Sync(), api.OK)
		for range 10 {
			n := 0
			for k := range 30 {
				if r.Intn(4) == 0 {
					turn(t, f, "/a", 800*k+r.Intn(800))
					n++
				}
			}
			is(t, "Sync", f.Sync(), api.OK)
			f = mounts(t, c)
			if x, e := Mend(f, "/a", "/g"); x != (ecc.Fixed{Whole: 30 - n, Turned: n}) || e != api.OK {
				t.Error("Mend:", x, e)
			}
			stands(t, f, "/a", b)
			whole(t, f, "/a", "/g", 30)
		}
	}
}

// player does things by chance with twins.
type player struct {
	*twins
	r      *rand.Rand
	guards [][2]string    // the last three files that were guarded, and what guarded them
	met    map[string]int // what was answered
}

// pair are a file and another one, more often than not one that guarded it.
func (x *player) pair() (p, q string) {
	if len(x.guards) > 0 && x.r.Intn(4) > 0 {
		l := x.guards[x.r.Intn(len(x.guards))]
		return l[0], l[1]
	}
	paths := []string{"/a", "/b", "/g", "/h", "/d/a", "/d/g", "/d", "/none/a"}
	return paths[x.r.Intn(len(paths))], paths[x.r.Intn(len(paths))]
}

// changes changes a file.
func (x *player) changes(p, q string) {
	size := []int{0, 1, 16, 22, 100, 1024, 1025, 3000, 6000, 65537}[x.r.Intn(10)]
	b := noise(x.r, min(size, 3000))
	what := x.r.Intn(5)
	x.both(func(_ *nand.Chip, f *fs.FS) {
		switch what {
		case 0, 1:
			f.Unlink(p)
			put(f, p, 0, b)
		case 2:
			f.Truncate(p, int64(size))
		case 3:
			f.Link(p, q)
		case 4:
			f.Unlink(p)
		}
	})
}

// hurts turns some bits of a file.
func (x *player) hurts(t *testing.T, p string) {
	t.Helper()
	s, e := x.f[1].Stat(p)
	if e != api.OK || s.Kind != api.IFile || s.Size == 0 || s.Size > 65536 || s.Pages*64 < int(s.Size) {
		return
	}
	for range 1 + x.r.Intn(4) {
		x.turns(t, p, x.r.Intn(int(8*s.Size)))
	}
}

// step does one thing.
func (x *player) step(t *testing.T) {
	t.Helper()
	p, q := x.pair()
	n := []int{16, 17, 64, 100, 255, 256, 1000, 1024, 15, 1025}[x.r.Intn(10)]
	answered := func(call string, found ecc.Fixed, e api.Errno) {
		x.met[fmt.Sprint(call, " ", e, found.Turned > 0, found.Code > 0, found.Lost > 0)]++
	}
	switch x.r.Intn(13) {
	case 0:
		x.changes(p, q)
	case 1, 2, 3, 12:
		x.hurts(t, p)
	case 4:
		x.hurts(t, q)
	case 5, 6:
		e := x.protects(t, p, q, n)
		answered("Protect", ecc.Fixed{}, e)
		if e == api.OK {
			x.guards = append(x.guards[max(0, len(x.guards)-2):], [2]string{p, q})
		}
	case 7, 8:
		found, e := x.checks(t, p, q)
		answered("Check", found, e)
	default:
		found, e := x.mends(t, p, q)
		answered("Mend", found, e)
	}
}

func TestPlays(t *testing.T) { // P24.1 to P24.5
	met := map[string]int{}
	for seed := range 60 {
		r := rand.New(rand.NewSource(int64(seed)))
		c, f := some(t)
		is(t, "Mkdir", f.Mkdir("/d"), api.OK)
		for _, p := range []string{"/a", "/b"} {
			has(t, f, p, noise(r, r.Intn(1500)))
		}
		if seed%3 == 0 {
			fills(t, f, "/full", 40)
		}
		x := &player{twinsOf(t, c, f), r, nil, met}
		for range 200 {
			x.step(t)
		}
		x.alike(t)
		is(t, "Open", put(x.f[1], "/last", 0, nil), api.OK)
		free(t, x.f[1], "/last", 16)
	}
	for _, answer := range []string{"Protect 0", "Protect 1", "Protect 2", "Protect 60", "Protect 63", "Protect 67",
		"Check 0", "Check 2", "Check 50", "Check 60", "Check 63", "Mend 0", "Mend 2", "Mend 50", "Mend 60", "Mend 63"} {
		if met[answer+" false false false"] == 0 {
			t.Error("never met:", answer)
		}
	}
	for _, found := range []string{"true false false", "false true false", "false false true", "true false true", "true true true"} {
		if met["Check 0 "+found] == 0 || met["Mend 0 "+found] == 0 {
			t.Error("never met:", found, "in", met)
		}
	}
}
