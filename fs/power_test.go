package fs

import (
	"fmt"
	"math/rand"
	"slices"
	"strings"
	"testing"

	"cuneiform/api"
	"cuneiform/nand"
)

// written is a file made anew, with that text. It ends with the first error.
func written(f *FS, p, text string) api.Errno {
	h, e := f.Open(p, Writes|Creates|Cuts)
	if e != api.OK {
		return e
	}
	for len(text) > 0 && e == api.OK {
		n := min(len(text), api.MaxIO)
		_, e = f.Write(h, []byte(text[:n]))
		text = text[n:]
	}
	if e == api.OK {
		e = f.Close(h)
	}
	return e
}

// textAt is what stands in a file.
func textAt(t *testing.T, f *FS, p string) string {
	t.Helper()
	h, e := f.Open(p, Reads)
	is(t, "Open of "+p, e, api.OK)
	var s string
	for {
		b, e := f.Read(h, api.MaxIO)
		is(t, "Read of "+p, e, api.OK)
		if len(b) == 0 {
			break
		}
		s += string(b)
	}
	is(t, "Close", f.Close(h), api.OK)
	return s
}

// step is a call that changes a file system.
type step struct {
	do   func(f *FS) api.Errno
	ends bool // whether all is committed then
}

// script are calls of a file system with /a and /d, one behind the other. Nothing is unlinked while a handle is open on it.
func script() []step {
	wide := strings.Repeat("a wide text ", 60)
	open := func(p string) step {
		return step{func(f *FS) api.Errno { _, e := f.Open(p, Writes|Creates|Cuts); return e }, false}
	}
	write := func(s string) step {
		return step{func(f *FS) api.Errno { _, e := f.Write(0, []byte(s)); return e }, false}
	}
	call := func(do func(f *FS) api.Errno) step { return step{do, false} }
	ends := func(do func(f *FS) api.Errno) step { return step{do, true} }
	closes := call(func(f *FS) api.Errno { return f.Close(0) })
	return []step{
		call(func(f *FS) api.Errno { return f.Mkdir("/d/e") }),
		open("/d/b"), write(wide), closes,
		call(func(f *FS) api.Errno { return f.Link("/d/b", "/c") }),
		open("/a"), write(wide[:300]), closes,
		call(func(f *FS) api.Errno { return f.Rename("/a", "/d/e/a") }),
		call(func(f *FS) api.Errno { return f.Truncate("/c", 100) }),
		ends(func(f *FS) api.Errno { return f.Sync() }),
		call(func(f *FS) api.Errno { return f.Rename("/d/e/a", "/d/b") }),
		call(func(f *FS) api.Errno { return f.Rmdir("/d/e") }),
		open("/c"), write(wide), write(wide), ends(func(f *FS) api.Errno { return f.Fsync(0) }), write(wide), closes,
		call(func(f *FS) api.Errno { return f.Unlink("/c") }),
		call(func(f *FS) api.Errno { return f.Unlink("/d/b") }),
		call(func(f *FS) api.Errno { return f.Rmdir("/d") }),
		call(func(f *FS) api.Errno { return f.Mkdir("/end") }),
		ends(func(f *FS) api.Errno { return f.Unmount() }),
	}
}

// TestWheneverThePowerGoes lets it go at each stroke. (P15.9)
func TestWheneverThePowerGoes(t *testing.T) {
	torn := [][]byte{nil, {1, 2, 3}, make([]byte, 90)}
	ends := map[bool]int{}
	for _, worn := range []int{0, 13, 40} {
		made, f := ready(t)
		for range worn {
			is(t, "Sync", f.Sync(), api.OK)
		}
		is(t, "Unmount", f.Unmount(), api.OK)
		for at := 0; ; at++ {
			ended := true
			for kind, data := range torn {
				c := made.Copy()
				is(t, "Script", c.Script([]api.Fault{{At: at, Kind: api.Ahead + min(kind, 1), Data: data}}), api.OK)
				ended = goes(t, c, fmt.Sprint("the power goes at ", at, " with ", data)) && ended
				ends[ended]++
			}
			if ended {
				break
			}
		}
	}
	if ends[false] < 100 || ends[true] < 3 {
		t.Error("what was played:", ends)
	}
}

// goes plays the script until the power goes, and holds what is mounted then against what there was. It tells whether all was played.
func goes(t *testing.T, c *nand.Chip, what string) bool {
	t.Helper()
	f := mounts(t, c)
	since := []string{tells(t, f)}
	for k, call := range script() {
		switch e := call.do(f); e {
		case api.OK:
		case api.ErrDown:
			c.Start()
			f = mounts(t, c)
			if got := tells(t, f); !slices.Contains(since, got) {
				t.Errorf("%s, in the call %d; mounted:\n%s\nand there was:\n%s", what, k, got, strings.Join(since, "\n"))
			}
			// It goes on from there.
			is(t, "Mkdir behind a loss of power", f.Mkdir("/on"), api.OK)
			is(t, "Sync behind a loss of power", f.Sync(), api.OK)
			was := tells(t, f)
			if got := tells(t, losing(t, c)); got != was {
				t.Errorf("%s, and behind it:\n%s\nbecame:\n%s", what, was, got)
			}
			return false
		default:
			t.Fatal(what, "the call", k, e)
		}
		if f.t == nil {
			f = mounts(t, c)
		}
		if call.ends {
			since = nil
		}
		since = append(since, tells(t, f))
	}
	return true
}

// TestAFileIsReplacedOrNot has what is written anew take the old one's place by a name. (P15.9, W4)
func TestAFileIsReplacedOrNot(t *testing.T) {
	old, now := strings.Repeat("old ", 150), strings.Repeat("something new ", 70)
	made, f := some(t)
	is(t, "write", written(f, "/a", old), api.OK)
	is(t, "Unmount", f.Unmount(), api.OK)
	met := map[string]int{}
	for at := range 60 {
		for kind := api.Ahead; kind <= api.Within; kind++ {
			c := made.Copy()
			f := mounts(t, c)
			is(t, "Script", c.Script([]api.Fault{{At: at, Kind: kind, Data: []byte{9, 9}}}), api.OK)
			replaced := written(f, "/new", now) == api.OK && f.Sync() == api.OK && f.Rename("/new", "/a") == api.OK && f.Sync() == api.OK
			c.Lose()
			c.Start()
			f = mounts(t, c)
			switch got := textAt(t, f, "/a"); {
			case got == now:
				met["new"]++
				if _, e := f.Stat("/new"); e != api.ErrNoEntry {
					t.Error("it has both names:", e)
				}
			case got == old && !replaced:
				met["old"]++
			default:
				t.Fatalf("replaced: %v, at %d: %q", replaced, at, got)
			}
		}
	}
	if met["new"] < 10 || met["old"] < 10 {
		t.Error("what was played:", met)
	}
}

// TestWhatWasSyncedStays writes and loses the power again and again, and within what is written, too. (P15.9, W4)
func TestWhatWasSyncedStays(t *testing.T) {
	r := rand.New(rand.NewSource(1))
	c, f := some(t)
	texts := map[string]string{}
	for round := range 300 {
		p := "/" + string(rune('a'+round%7))
		text := strings.Repeat(fmt.Sprint("round ", round, " "), 1+r.Intn(40))
		is(t, "write", written(f, p, text), api.OK)
		is(t, "Sync", f.Sync(), api.OK)
		texts[p] = text
		is(t, "Script", c.Script([]api.Fault{{At: r.Intn(8), Kind: api.Ahead + r.Intn(2), Data: make([]byte, r.Intn(50))}}), api.OK)
		for c.Up() {
			if e := f.Mkdir("/late"); e == api.OK {
				f.Sync()
			}
			if e := f.Rmdir("/late"); e == api.OK {
				f.Sync()
			}
		}
		c.Start()
		f = mounts(t, c)
		f.Rmdir("/late")
		for p, want := range texts {
			if got := textAt(t, f, p); got != want {
				t.Fatalf("round %d: in %s stands %q, not %q", round, p, got, want)
			}
		}
	}
}

// TestAFullChipIsEmptiedAgain fills and empties a chip. (P15.8, P15.12, W5)
func TestAFullChipIsEmptiedAgain(t *testing.T) {
	for _, size := range []int{64, 256} {
		c, f := fresh(t, 22, 8, size, 2)
		for round := range 12 {
			for _, d := range []string{"/d", "/d/d", "/d/d/d"} {
				is(t, "Mkdir", f.Mkdir(d), api.OK)
			}
			e, n := api.OK, 0
			for ; e == api.OK; n++ {
				e = written(f, fmt.Sprintf("/d/d/n%d", n), strings.Repeat("x", (round+1)*size))
			}
			s, g := f.StatFS()
			is(t, "StatFS", g, api.OK)
			// What is refused takes more than there is: an inode, or pages of a file and of a directory.
			if e != api.ErrSpace || s.UsedInodes < s.Inodes && s.Pages-s.UsedPages > round+1+2+4 {
				t.Error("a full chip:", e, s)
			}
			f.Close(0)
			is(t, "Sync", f.Sync(), api.OK)
			f = losing(t, c)
			l, e := f.List("/d/d")
			is(t, "List", e, api.OK)
			for _, entry := range slices.Backward(l) {
				if entry.Name == "d" {
					is(t, "Rmdir", f.Rmdir("/d/d/d"), api.OK)
				} else {
					is(t, "Unlink", f.Unlink("/d/d/"+entry.Name), api.OK)
				}
			}
			is(t, "Rmdir", f.Rmdir("/d/d"), api.OK)
			is(t, "Rmdir", f.Rmdir("/d"), api.OK)
			if s, e := f.StatFS(); s.UsedPages != 0 || s.UsedInodes != 1 || e != api.OK {
				t.Error("an emptied chip:", s, e)
			}
		}
	}
}

// TestBlocksWearAlike writes one file again and again beside others that stay. (P15.8, W2)
func TestBlocksWearAlike(t *testing.T) {
	c, f := some(t)
	stays := strings.Repeat("what stays ", 250)
	is(t, "write", written(f, "/stays", stays), api.OK)
	for round := range 600 {
		is(t, "write", written(f, "/a", fmt.Sprint("round ", round)), api.OK)
		is(t, "Sync", f.Sync(), api.OK)
		least, most := 1<<30, 0
		for k := range 22 {
			least, most = min(least, c.Wear(k)), max(most, c.Wear(k))
		}
		if most-least > api.Spread {
			t.Fatal("round", round, "wear from", least, "to", most)
		}
	}
	if c.Wear(0) < 10 {
		t.Error("worn:", c.Wear(0))
	}
	f = losing(t, c)
	if textAt(t, f, "/stays") != stays || textAt(t, f, "/a") != "round 599" {
		t.Error("another text")
	}
}

// TestWhatSomebodyElseWrites has two file systems on one chip, and a chip that is changed beneath: nothing is promised, but that each call ends. (P1)
func TestWhatSomebodyElseWrites(t *testing.T) {
	for seed := range int64(150) {
		p := begin(t, rand.New(rand.NewSource(seed)))
		two := [2]*FS{p.f, mounts(t, p.c)}
		for range 400 {
			p.f = two[p.r.Intn(2)]
			x := p.some()
			got := x.real()
			if got.e == api.OK && x.word() != "Unmount" && p.one(3) {
				x.plainly() // that the play goes on where something is
			}
			for k := range two {
				if _, e := two[k].StatFS(); e == api.ErrNil || p.one(60) {
					if f, e := Mount(p.c); e == api.OK {
						two[k] = f
					}
				}
			}
			switch p.r.Intn(120) {
			case 0:
				p.c.Erase(p.r.Intn(p.c.Geo().Blocks))
			case 1:
				p.c.Lose()
				p.c.Start()
			}
		}
	}
}
