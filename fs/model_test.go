package fs

import (
	"fmt"
	"math"
	"math/rand"
	"slices"
	"strings"
	"testing"

	"cuneiform/api"
	"cuneiform/nand"
)

// noPaths are texts that are no paths, with the errors.
var noPaths = []struct {
	text string
	want api.Errno
}{
	{"", api.ErrPath},
	{"a", api.ErrPath},
	{"a/b", api.ErrPath},
	{"./a", api.ErrPath},
	{"\x00/a", api.ErrPath},
	{"/" + strings.Repeat("/", 255), api.ErrPath},
	{strings.Repeat("/a", 17), api.ErrPath},
	{strings.Repeat("/a", 16) + "/./b", api.ErrName},
	{"/.", api.ErrName},
	{"/..", api.ErrName},
	{"/a/../b", api.ErrName},
	{"/abcdefghijklmn", api.ErrName},
	{"/a\x00", api.ErrName},
	{"/a/\x00/b", api.ErrName},
}

// game is how it is played: of how many steps one has a loss of power, and a failure (0: none), and whether more fails than the reserve has.
type game struct {
	steps, loss, fail int
	over              bool
}

// player plays with a file system, and knows what it has to answer.
type player struct {
	t       *testing.T
	r       *rand.Rand
	g       game
	c       *nand.Chip
	f       *FS
	m       *plain
	since   []*plain // what there was behind each call since the last one that committed all, that one with them
	reserve int
	closes  int // how often a handle is closed, of a hundred calls
	failed  int // how many blocks failed or are bad
	fault   api.Fault
	from    int // the stroke from which on the fault's At is counted
	ends    map[string]int
}

// geos are some chips that are small enough to be full at times.
var geos = []api.Geo{{Blocks: 8, Pages: 14, Size: 64}, {Blocks: 16, Pages: 8, Size: 64}, {Blocks: 11, Pages: 12, Size: 128}, {Blocks: 30, Pages: 8, Size: 64}, {Blocks: 14, Pages: 9, Size: 256}, {Blocks: 10, Pages: 32, Size: 64}, {Blocks: 13, Pages: 9, Size: 512}, {Blocks: 8, Pages: 14, Size: 512}, {Blocks: 8, Pages: 14, Size: 256}}

func begin(t *testing.T, r *rand.Rand) *player {
	t.Helper()
	geo := geos[r.Intn(len(geos))]
	p := &player{t: t, r: r, reserve: 1 + r.Intn(2), closes: 1 + r.Intn(6), ends: map[string]int{}}
	geo.Blocks += p.reserve - 1
	p.c, p.f = fresh(t, geo.Blocks, geo.Pages, geo.Size, p.reserve)
	s, e := p.f.StatFS()
	is(t, "StatFS", e, api.OK)
	p.m = bare(geo.Size, s.Pages, s.Inodes)
	p.since = []*plain{p.m.copied()}
	p.same()
	return p
}

func (p *player) one(of int) bool { return of > 0 && p.r.Intn(of) == 0 }

// dirs are the paths of all directories; of the root it is empty.
func (p *player) dirs() []string {
	l := []string{""}
	for _, at := range p.m.below(1, "") {
		if at.stat.Kind == api.IDir {
			l = append(l, at.path)
		}
	}
	return l
}

// path is some path: of what there is, of what is not, or of nothing that may be.
func (p *player) path() string {
	switch x := p.r.Intn(40); {
	case x == 0:
		return noPaths[p.r.Intn(len(noPaths))].text
	case x == 1:
		return "/"
	case x == 2:
		return strings.Repeat("/d", 1+p.r.Intn(17))
	case x < 22:
		if l := p.m.below(1, ""); len(l) > 0 {
			return p.dressed(l[p.r.Intn(len(l))].path)
		}
	case x < 25:
		if l := p.m.below(1, ""); len(l) > 0 {
			return l[p.r.Intn(len(l))].path + "/" + p.name()
		}
	}
	l := p.dirs()
	at := l[p.r.Intn(len(l))]
	if p.one(4) {
		at = l[len(l)-1]
	}
	return p.dressed(at + "/" + p.name())
}

func (p *player) name() string {
	if p.one(15) {
		return "abcdefghijklm"
	}
	return string("abcdefgh"[p.r.Intn(8)])
}

// dressed is another text for the same path.
func (p *player) dressed(at string) string {
	switch p.r.Intn(12) {
	case 0:
		return at + "/"
	case 1:
		return "/" + at
	case 2:
		return strings.ReplaceAll(at, "/", "//")
	}
	return at
}

// file is the path of some file, if there is one.
func (p *player) file() string {
	l := slices.DeleteFunc(p.m.below(1, ""), func(at told) bool { return at.stat.Kind != api.IFile })
	if len(l) == 0 || p.one(10) {
		return p.path()
	}
	return l[p.r.Intn(len(l))].path
}

// handle is some handle's number, most often of one that is open.
func (p *player) handle() int {
	if p.one(12) {
		return []int{-1, 16, 17, math.MinInt, math.MaxInt, 1 << 32, p.r.Intn(16)}[p.r.Intn(7)]
	}
	var l []int
	for h, at := range p.m.handles {
		if at.inode > 0 {
			l = append(l, h)
		}
	}
	if len(l) == 0 {
		return p.r.Intn(16)
	}
	return l[p.r.Intn(len(l))]
}

func (p *player) flags() int {
	if p.one(10) {
		return p.r.Intn(70) - 3
	}
	return []int{Reads, Writes, Reads | Writes, Reads | Writes | Creates, Reads | Writes | Creates, Writes | Creates | Appends, Writes | Cuts, Reads | Writes | Creates | Only, Reads | Creates, Writes | Creates | Cuts}[p.r.Intn(10)]
}

// bytes are some bytes to be written.
func (p *player) bytes() []byte {
	n := p.r.Intn(3 * p.m.size)
	switch p.r.Intn(12) {
	case 0:
		n = 0
	case 1, 2:
		n = 1024 - p.r.Intn(3) + 1
	case 3:
		n = p.m.size * (1 + p.r.Intn(3))
	}
	b := make([]byte, min(n, 1025))
	p.r.Read(b)
	return b
}

// sized is some size or place of a file.
func (p *player) sized() int64 {
	k, size := int64(p.m.size/2), int64(p.m.size)
	edges := []int64{0, size, 6 * size, (6 + k) * size, (6 + k + k) * size, p.m.greatest(), p.m.greatest() - 1024, p.r.Int63n(20 * size), p.r.Int63n(p.m.greatest())}
	return edges[p.r.Intn(len(edges))] + p.r.Int63n(3) - 1
}

// answer is what a call answers, to be held against what it is to answer.
type answer struct {
	e api.Errno
	v any
}

// turn is a call, once on the file system, and once in plain memory.
type turn struct {
	name          string
	changes       bool // whether it is one that may change the file system
	commits       bool // whether all is committed, if it is not refused
	real, plainly func() answer
}

// some is some call.
func (p *player) some() turn {
	f, m := p.f, p.m
	of := func(v any, e api.Errno) answer { return answer{e, v} }
	only := func(e api.Errno) answer { return answer{e, nil} }
	switch x := p.r.Intn(100); {
	case x < 14:
		at, flags := p.path(), p.flags()
		return turn{fmt.Sprintf("Open %q %d", at, flags), rightFlags(flags) && flags&(Creates|Cuts) != 0, false, func() answer { return of(f.Open(at, flags)) }, func() answer { return of(m.open(at, flags)) }}
	case x < 14+p.closes:
		h := p.handle()
		return turn{fmt.Sprint("Close ", h), false, false, func() answer { return only(f.Close(h)) }, func() answer { return only(m.close(h)) }}
	case x < 26:
		h, n := p.handle(), p.r.Intn(300)
		if p.one(8) {
			n = []int{-1, 0, 1024, 1025, math.MinInt, math.MaxInt}[p.r.Intn(6)]
		}
		text := func(b []byte, e api.Errno) answer { return answer{e, string(b)} }
		return turn{fmt.Sprint("Read ", h, n), false, false, func() answer { return text(f.Read(h, n)) }, func() answer { return text(m.read(h, n)) }}
	case x < 41:
		h, b := p.handle(), p.bytes()
		return turn{fmt.Sprint("Write ", h, len(b)), true, false, func() answer { return of(f.Write(h, b)) }, func() answer { return of(m.write(h, b)) }}
	case x < 48:
		h, off, from := p.handle(), p.sized(), p.r.Intn(3)
		switch p.r.Intn(8) {
		case 0:
			off = []int64{1 << 40, 1<<40 + 1, -1 << 40, math.MaxInt64, math.MinInt64, -off}[p.r.Intn(6)]
		case 1:
			from = []int{-1, 3, math.MaxInt, math.MinInt}[p.r.Intn(4)]
		case 2:
			off, from = -p.r.Int63n(200), 1+p.r.Intn(2)
		}
		return turn{fmt.Sprint("Seek ", h, off, from), false, false, func() answer { return of(f.Seek(h, off, from)) }, func() answer { return of(m.seek(h, off, from)) }}
	case x < 53:
		at, size := p.file(), p.sized()
		if p.one(10) {
			size = []int64{-1, math.MinInt64, math.MaxInt64, 1 << 31}[p.r.Intn(4)]
		}
		return turn{fmt.Sprintf("Truncate %q %d", at, size), true, false, func() answer { return only(f.Truncate(at, size)) }, func() answer { return only(m.truncate(at, size)) }}
	case x < 60:
		at := p.path()
		return turn{fmt.Sprintf("Mkdir %q", at), true, false, func() answer { return only(f.Mkdir(at)) }, func() answer { return only(m.mkdir(at)) }}
	case x < 64:
		at := p.path()
		return turn{fmt.Sprintf("Rmdir %q", at), true, false, func() answer { return only(f.Rmdir(at)) }, func() answer { return only(m.rmdir(at)) }}
	case x < 70:
		old, to := p.file(), p.path()
		return turn{fmt.Sprintf("Link %q %q", old, to), true, false, func() answer { return only(f.Link(old, to)) }, func() answer { return only(m.link(old, to)) }}
	case x < 77:
		at := p.file()
		return turn{fmt.Sprintf("Unlink %q", at), true, false, func() answer { return only(f.Unlink(at)) }, func() answer { return only(m.unlink(at)) }}
	case x < 87:
		old, to := p.path(), p.path()
		return turn{fmt.Sprintf("Rename %q %q", old, to), true, false, func() answer { return only(f.Rename(old, to)) }, func() answer { return only(m.rename(old, to)) }}
	}
	return p.other()
}

// other is some call of those that do not make anything.
func (p *player) other() turn {
	f, m := p.f, p.m
	told := func(v any, e api.Errno) answer { return answer{e, fmt.Sprint(v)} }
	only := func(e api.Errno) answer { return answer{e, nil} }
	switch x := p.r.Intn(13); {
	case x < 2:
		at := p.path()
		return turn{fmt.Sprintf("List %q", at), false, false, func() answer { return told(f.List(at)) }, func() answer { return told(m.list(at)) }}
	case x < 4:
		at := p.path()
		return turn{fmt.Sprintf("Stat %q", at), false, false, func() answer { return told(f.Stat(at)) }, func() answer { return told(m.stat(at)) }}
	case x < 5:
		return turn{"StatFS", false, false, func() answer { return told(f.StatFS()) }, func() answer { return told(m.statFS(p.left() < 0), api.OK) }}
	case x < 7:
		at, most := p.path(), p.r.Intn(9)
		return turn{fmt.Sprintf("Walk %q", at), false, false, func() answer { return told(walkedUpTo(f, at, most), api.OK) }, func() answer {
			l := m.walked(at)
			return told(l[:min(most, len(l))], api.OK)
		}}
	case x < 9:
		h := p.handle()
		return turn{fmt.Sprint("Fsync ", h), true, true, func() answer { return only(f.Fsync(h)) }, func() answer { return only(m.handle(h, 0)) }}
	case x < 12 || p.r.Intn(4) > 0:
		return turn{"Sync", true, true, func() answer { return only(f.Sync()) }, func() answer { return only(api.OK) }}
	}
	return turn{"Unmount", true, true, func() answer { return only(f.Unmount()) }, func() answer {
		for h := range m.handles {
			m.close(h)
		}
		return only(api.OK)
	}}
}

// walkedUpTo is what a walk hands over, as far as so many.
func walkedUpTo(f *FS, p string, most int) []told {
	var l []told
	if most == 0 {
		return l
	}
	for at, s := range f.Walk(p) {
		l = append(l, told{at, s})
		if len(l) == most {
			break
		}
	}
	return l
}

// faults sets what goes wrong next.
func (p *player) faults() {
	data := make([]byte, p.r.Intn(40))
	for i := range data {
		data[i] = byte(p.r.Intn(3))
	}
	next := api.Fault{At: p.r.Intn(4) * p.r.Intn(10), Kind: api.Ahead + p.r.Intn(2), Data: data}
	switch {
	case p.one(p.g.loss):
	case p.one(p.g.fail) && (p.g.over || p.left() > 0):
		next.Kind = api.Failed
	default:
		return
	}
	p.fault, p.from = next, p.c.Strokes()
	is(p.t, "Script", p.c.Script([]api.Fault{next}), api.OK)
}

// count counts a block that failed.
func (p *player) count() {
	if p.fault.Kind == api.Failed && p.c.Strokes() > p.from+p.fault.At {
		p.failed++
		p.fault = api.Fault{}
	}
}

// left is how many blocks may fail yet.
func (p *player) left() int {
	return p.reserve - p.failed
}

// step plays a call.
func (p *player) step() {
	p.t.Helper()
	p.faults()
	x := p.some()
	strokes, dirty, left := p.c.Strokes(), p.f.t.Pool().Dirty(), p.left()
	got := x.real()
	p.count()
	p.ends[fmt.Sprint(x.word(), " ", got.e)]++
	made := p.c.Strokes() > strokes
	switch {
	case made && (!x.changes || !x.commits && dirty < 16 || left < 0):
		p.t.Fatal(x.name, "made strokes, with so many dirty:", dirty)
	case !made && x.changes && dirty >= 16 && left >= 0:
		p.t.Fatal(x.name, "committed nothing, with so many dirty:", dirty)
	case !p.c.Up():
		p.lost(x, got)
	case x.changes && left < 0 && got.e != api.ErrReadOnly, got.e == api.ErrReadOnly && p.left() >= 0:
		p.t.Fatal(x.name, got, "with so much left of the reserve:", left, p.left())
	case got.e == api.ErrReadOnly && x.word() == "Unmount":
		p.mountAgain()
	case got.e != api.ErrReadOnly:
		p.answered(x, got)
	}
}

// word is what is called.
func (x turn) word() string {
	return strings.Fields(x.name)[0]
}

// answered holds what was answered against what was to be.
func (p *player) answered(x turn, got answer) {
	p.t.Helper()
	if want := x.plainly(); got != want {
		p.t.Fatalf("%s: %v, not %v", x.name, got, want)
	}
	if got.e != api.OK {
		return
	}
	if x.commits {
		p.since = nil
	}
	if x.changes || x.word() == "Close" {
		p.since = append(p.since, p.m.copied())
	}
	if x.word() == "Unmount" {
		p.mountAgain()
	}
}

// lost goes on behind a loss of power.
func (p *player) lost(x turn, got answer) {
	p.t.Helper()
	if got.e != api.ErrDown {
		p.t.Fatal(x.name, "where the power goes:", got)
	}
	if _, e := p.f.StatFS(); e != api.ErrDown && x.word() != "Unmount" {
		p.t.Fatal("behind a loss of power:", e)
	}
	p.c.Start()
	p.mountAgain()
}

// mountAgain goes on with what is mounted, which is what there was behind some call since all was committed.
func (p *player) mountAgain() {
	p.t.Helper()
	is(p.t, "Script", p.c.Script(nil), api.OK)
	p.fault, p.failed = api.Fault{}, 0
	for k := range p.c.Geo().Blocks {
		if p.c.Bad(k) {
			p.failed++
		}
	}
	p.f = mounts(p.t, p.c)
	got := tells(p.t, p.f)
	k := slices.IndexFunc(p.since, func(m *plain) bool { return m.mounted().tells() == got })
	if k < 0 {
		p.t.Fatalf("mounted:\n%s\nof %d the last one:\n%s", got, len(p.since), p.since[len(p.since)-1].mounted().tells())
	}
	p.m = p.since[k].mounted()
	p.since = []*plain{p.m.copied()}
	p.same()
}

// same fails the test, if the file system has something else.
func (p *player) same() {
	p.t.Helper()
	if got, want := tells(p.t, p.f), p.m.tells(); got != want {
		p.t.Fatalf("it has:\n%s\nnot:\n%s", got, want)
	}
	for h, at := range p.m.handles {
		if got := p.f.handles[h]; got.inode != at.inode || got.flags != at.flags || got.place != at.place {
			p.t.Fatal("the handle", h, got, "not", at)
		}
		if at.inode > 0 && textOf(p.t, p.f, at.inode) != p.m.text(at.inode) {
			p.t.Fatal("another content at the handle", h)
		}
	}
}

// plays plays games, and tells how the calls ended.
func plays(t *testing.T, seeds int64, how func(r *rand.Rand) game) map[string]int {
	t.Helper()
	ends := map[string]int{}
	for seed := range seeds {
		p := begin(t, rand.New(rand.NewSource(seed)))
		p.g = how(p.r)
		for step := range p.g.steps {
			p.step()
			if step%25 == 0 {
				p.same()
			}
			if t.Failed() {
				t.Fatal("seed", seed, "step", step)
			}
		}
		p.same()
		for what, n := range p.ends {
			ends[what] += n
		}
	}
	return ends
}

// met fails the test, if a play did not come to what it is for.
func met(t *testing.T, ends map[string]int, call string, want ...api.Errno) {
	t.Helper()
	for _, e := range want {
		if n := ends[fmt.Sprint(call, " ", e)]; n < 3 {
			t.Errorf("of the calls of %s %d ended with %d", call, n, e)
		}
	}
}

func TestPlay(t *testing.T) { // P15.2 to P15.8, P15.10, P15.12
	ends := plays(t, 160, func(r *rand.Rand) game { return game{steps: 600} })
	where := []api.Errno{api.OK, api.ErrPath, api.ErrName, api.ErrNoEntry, api.ErrNotDir}
	and := func(l ...api.Errno) []api.Errno { return slices.Concat(where, l) }
	met(t, ends, "Open", and(api.ErrArg, api.ErrRoot, api.ErrExist, api.ErrIsDir, api.ErrHandles, api.ErrSpace)...)
	met(t, ends, "Close", api.OK, api.ErrHandle)
	met(t, ends, "Read", api.OK, api.ErrHandle, api.ErrAccess, api.ErrArg)
	met(t, ends, "Write", api.OK, api.ErrHandle, api.ErrAccess, api.ErrArg, api.ErrBig, api.ErrSpace)
	met(t, ends, "Seek", api.OK, api.ErrHandle, api.ErrArg)
	met(t, ends, "Truncate", and(api.ErrIsDir, api.ErrArg, api.ErrBig)...)
	met(t, ends, "Mkdir", and(api.ErrRoot, api.ErrExist, api.ErrSpace)...)
	met(t, ends, "Rmdir", and(api.ErrRoot, api.ErrNotEmpty)...)
	met(t, ends, "Link", and(api.ErrRoot, api.ErrIsDir, api.ErrExist, api.ErrSpace)...)
	met(t, ends, "Unlink", and(api.ErrRoot, api.ErrIsDir)...)
	met(t, ends, "Rename", and(api.ErrRoot, api.ErrInside, api.ErrIsDir, api.ErrNotEmpty, api.ErrSpace)...)
	met(t, ends, "List", where...)
	met(t, ends, "Stat", where...)
	met(t, ends, "Fsync", api.OK, api.ErrHandle)
	met(t, ends, "Unmount", api.OK)
}

func TestPlayWithLosses(t *testing.T) { // P15.8, P15.9
	ends := plays(t, 150, func(r *rand.Rand) game { return game{steps: 400, loss: 1 + r.Intn(30)} })
	for _, call := range []string{"Open", "Write", "Truncate", "Mkdir", "Rmdir", "Link", "Unlink", "Rename", "Fsync", "Sync", "Unmount"} {
		met(t, ends, call, api.OK, api.ErrDown)
	}
}

func TestPlayWithFailures(t *testing.T) { // P15.8: within the reserve nothing is seen of them
	plays(t, 90, func(r *rand.Rand) game { return game{steps: 400, fail: 5 + r.Intn(60)} })
}

func TestPlayWithTooManyFailures(t *testing.T) { // P15.8, P15.9, P15.11
	ends := plays(t, 90, func(r *rand.Rand) game { return game{steps: 400, fail: 5 + r.Intn(60), over: true} })
	for _, call := range []string{"Open", "Write", "Truncate", "Mkdir", "Rmdir", "Link", "Unlink", "Rename", "Fsync", "Sync", "Unmount"} {
		met(t, ends, call, api.OK, api.ErrReadOnly)
	}
}

func TestPlayWithLossesAndFailures(t *testing.T) { // P15.8, P15.9, P15.11
	ends := plays(t, 150, func(r *rand.Rand) game {
		return game{steps: 400, loss: 1 + r.Intn(30), fail: 5 + r.Intn(60), over: r.Intn(3) == 0}
	})
	for _, call := range []string{"Open", "Write", "Rename", "Sync"} {
		met(t, ends, call, api.OK, api.ErrDown, api.ErrReadOnly)
	}
}
