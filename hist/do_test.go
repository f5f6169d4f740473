package hist

import (
	"fmt"
	"math"
	"math/rand"
	"strings"
	"testing"

	"cuneiform/api"
	"cuneiform/fs"
	"cuneiform/nand"
)

// plays does operations one by one, and fails the test, if one answers something else.
func plays(t *testing.T, f *fs.FS, l ...step) {
	t.Helper()
	for k, s := range l {
		answers(t, fmt.Sprint(k, ": ", shown(s.op)), Do(f, s.op), s.answer)
	}
}

func TestDo(t *testing.T) { // P25.1: each kind, in turn
	_, f := little(t)
	plays(t, f,
		step{Op{Kind: 7, Path: "/d"}, Answer{}},
		step{Op{Kind: 7, Path: "/d"}, Answer{Err: api.ErrExist}},
		step{Op{Kind: 1, Path: "/d/a", N: 1}, Answer{Err: api.ErrNoEntry}},
		step{Op{Kind: 1, Path: "/d/a", N: 7}, Answer{N: 0}},
		step{Op{Kind: 1, Path: "/d/a", N: 34}, Answer{N: 1}},
		step{Op{Kind: 1, Path: "/d/a", N: 64}, Answer{Err: api.ErrArg}},
		step{Op{Kind: 4, Handle: 0, Bytes: []byte("hello")}, Answer{N: 5}},
		step{Op{Kind: 4, Handle: 1, Bytes: []byte(" you")}, Answer{N: 4}},
		step{Op{Kind: 4, Handle: 1}, Answer{N: 0}},
		step{Op{Kind: 4, Handle: 2, Bytes: []byte("x")}, Answer{Err: api.ErrHandle}},
		step{Op{Kind: 3, Handle: 0, N: 9}, Answer{Bytes: []byte(" you")}},
		step{Op{Kind: 3, Handle: 0, N: 9}, Answer{}},
		step{Op{Kind: 3, Handle: 1, N: 9}, Answer{Err: api.ErrAccess}},
		step{Op{Kind: 3, Handle: 0, N: 1025}, Answer{Err: api.ErrArg}},
		step{Op{Kind: 5, Handle: 0, Off: -3, N: 2}, Answer{N: 6}},
		step{Op{Kind: 5, Handle: 0, Off: 1, N: 1}, Answer{N: 7}},
		step{Op{Kind: 3, Handle: 0, N: 1}, Answer{Bytes: []byte("o")}},
		step{Op{Kind: 5, Handle: 0, Off: 1 << 40}, Answer{N: 1 << 40}},
		step{Op{Kind: 5, Handle: 0, Off: 1<<40 + 1}, Answer{Err: api.ErrArg}},
		step{Op{Kind: 5, Handle: 0, Off: 0, N: 3}, Answer{Err: api.ErrArg}},
		step{Op{Kind: 12, Path: "/d/a"}, Answer{N: 9}},
		step{Op{Kind: 12, Path: "/d"}, Answer{N: 16}},
		step{Op{Kind: 12, Path: "/"}, Answer{N: 16}},
		step{Op{Kind: 12, Path: "/a"}, Answer{Err: api.ErrNoEntry}},
		step{Op{Kind: 6, Path: "/d/a", Off: 1000}, Answer{}},
		step{Op{Kind: 12, Path: "/d/a"}, Answer{N: 1000}},
		step{Op{Kind: 6, Path: "/d/a", Off: -1}, Answer{Err: api.ErrArg}},
		step{Op{Kind: 6, Path: "/d", Off: 0}, Answer{Err: api.ErrIsDir}},
		step{Op{Kind: 9, Path: "/d/a", To: "/b"}, Answer{}},
		step{Op{Kind: 9, Path: "/d/a", To: "/b"}, Answer{Err: api.ErrExist}},
		step{Op{Kind: 12, Path: "/b"}, Answer{N: 1000}},
		step{Op{Kind: 10, Path: "/d/a"}, Answer{}},
		step{Op{Kind: 10, Path: "/d/a"}, Answer{Err: api.ErrNoEntry}},
		step{Op{Kind: 10, Path: "/d"}, Answer{Err: api.ErrIsDir}},
		step{Op{Kind: 11, Path: "/b", To: "/d/c"}, Answer{}},
		step{Op{Kind: 11, Path: "/d", To: "/d/d"}, Answer{Err: api.ErrInside}},
		step{Op{Kind: 12, Path: "/d/c"}, Answer{N: 1000}},
		step{Op{Kind: 8, Path: "/d"}, Answer{Err: api.ErrNotEmpty}},
		step{Op{Kind: 10, Path: "/d/c"}, Answer{}},
		step{Op{Kind: 8, Path: "/d"}, Answer{}},
		step{Op{Kind: 8, Path: "/d"}, Answer{Err: api.ErrNoEntry}},
		step{Op{Kind: 12, Path: "/"}, Answer{N: 0}},
		step{Op{Kind: 13, Handle: 0}, Answer{}},
		step{Op{Kind: 13, Handle: 9}, Answer{Err: api.ErrHandle}},
		step{Op{Kind: 2, Handle: 0}, Answer{}},
		step{Op{Kind: 2, Handle: 0}, Answer{Err: api.ErrHandle}},
		step{Op{Kind: 2, Handle: 1}, Answer{}},
		step{Op{Kind: 14}, Answer{}},
	)
	if s, e := f.StatFS(); s.UsedInodes != 1 || s.UsedPages != 0 || e != api.OK {
		t.Error("StatFS:", s, e)
	}
}

func TestDoCommits(t *testing.T) { // P25.1: Fsync and Sync, and nothing else here
	for _, kind := range []int{13, 14} {
		c, f := some(t)
		answers(t, "Do", Do(f, Op{Kind: 7, Path: "/new"}), Answer{})
		_, e := mounts(t, c.Copy()).Stat("/new")
		is(t, "Stat ahead", e, api.ErrNoEntry)
		answers(t, "Do", Do(f, Op{Kind: kind}), Answer{})
		_, e = mounts(t, c.Copy()).Stat("/new")
		is(t, "Stat behind", e, api.OK)
	}
}

func TestNotRight(t *testing.T) { // P25.1, P1: nothing changes, and this is named ahead of all else
	c, f := some(t)
	strokes := c.Strokes()
	down, lost := some(t)
	down.Lose()
	for _, o := range allWrongs() {
		if rightTold(o) {
			t.Fatal("is right, as it is told here:", shown(o))
		}
		for _, g := range []*fs.FS{f, lost, nil, {}} {
			answers(t, shown(o), Do(g, o), Answer{Err: api.ErrArg})
		}
	}
	if c.Strokes() != strokes {
		t.Error("the chip was used")
	}
	_, other := some(t)
	sameHeld(t, f, other)
}

func TestJustRight(t *testing.T) { // P25.1: what is not used is asked for nothing more
	for kind := 1; kind <= 14; kind++ {
		for k, o := range edges(kind) {
			if !rightTold(o) {
				t.Fatal("is not right, as it is told here:", shown(o))
			}
			x := &twins{}
			for k := range x.c {
				x.c[k], x.f[k] = some(t)
			}
			x.does(t, o)
			sameHeld(t, x.f[1], x.f[0])
			sameChips(t, x.c[1], x.c[0])
			// Just those answer ErrArg whose own fields are refused: a handle that is none is another error.
			refused := k == 0 && kind == 5 || kind == 6 && o.Off < 0 || kind == 1 && o.N != 7
			_, f := some(t)
			if got := Do(f, o); (got.Err == api.ErrArg) != refused {
				t.Error(shown(o), "answers", got)
			}
		}
	}
}

func TestKindsOfErrors(t *testing.T) { // P25.1, P1: beside an error stands nothing
	for kind := 1; kind <= 14; kind++ {
		for _, path := range []string{"", "x", "/.", "/none/x", "/a/x", "/", "/d", "/a", "/b", "/e", "/new", strings.Repeat("/", 255), strings.Repeat("/x", 127)} {
			for _, to := range []string{"", "/", "/a", "/d", "/new", "/d/new", "/none/x"} {
				for _, n := range []int{-1, 0, 1, 2, 7, 15, 22, 63, 1024, 1025} {
					x := &twins{}
					for k := range x.c {
						x.c[k], x.f[k] = some(t)
					}
					o := Op{Kind: kind, Path: path, To: to, N: n, Off: int64(n), Handle: n / 7, Bytes: []byte("hello")}
					if a := x.does(t, o); a.Err != api.OK && (a.N != 0 || len(a.Bytes) != 0) {
						t.Error(shown(o), a)
					}
					if kind != 9 && kind != 11 {
						break
					}
				}
			}
		}
		for _, h := range []int{0, 1, 15, 16, -1, math.MaxInt32, math.MinInt32} {
			for _, n := range []int{-1, 0, 1, 2, 3, 7, 1024, 1025, math.MaxInt32, math.MinInt32} {
				for _, off := range []int64{0, 3, -1, 1 << 40, math.MinInt64, math.MaxInt64} {
					x := &twins{}
					for k := range x.c {
						x.c[k], x.f[k] = some(t)
					}
					o := Op{Kind: kind, Path: "/a", To: "/x", Handle: h, N: n, Off: off, Bytes: []byte("hello")}
					if a := x.does(t, o); a.Err != api.OK && (a.N != 0 || len(a.Bytes) != 0) {
						t.Error(shown(o), a)
					}
				}
			}
			if kind > 5 && kind != 13 {
				break
			}
		}
	}
}

func TestDoWithoutAFileSystem(t *testing.T) { // P25.1, P1
	c, f := some(t)
	c.Lose()
	gone := unmounted(t)
	for kind := 1; kind <= 14; kind++ {
		o := Op{Kind: kind, Path: "/a", To: "/x", N: 7, Bytes: []byte("x")}
		answers(t, shown(o), Do(f, o), Answer{Err: api.ErrDown})
		for _, g := range []*fs.FS{nil, {}, gone} {
			answers(t, shown(o), Do(g, o), Answer{Err: api.ErrNil})
		}
	}
	// As Open says: its flags are asked for ahead of all else.
	for _, g := range []*fs.FS{nil, {}, gone, f} {
		answers(t, "Open", Do(g, Op{Kind: 1, Path: "/a", N: 64}), Answer{Err: api.ErrArg})
	}
}

func TestDoKeepsNothing(t *testing.T) { // P25.1: what is handed in stays as it is, what is answered is new
	_, f := some(t)
	b := []byte("hello")
	plays(t, f, step{Op{Kind: 5}, Answer{}}, step{Op{Kind: 4, Bytes: b}, Answer{N: 5}}, step{Op{Kind: 5}, Answer{}})
	if string(b) != "hello" {
		t.Error("what was handed in is", string(b))
	}
	copy(b, "XXXXX")
	for range 2 {
		a := Do(f, Op{Kind: 3, N: 5})
		answers(t, "Read", a, Answer{Bytes: []byte("hello")})
		copy(a.Bytes, "YYYYY")
		plays(t, f, step{Op{Kind: 5}, Answer{}})
	}
}

func TestDoByChance(t *testing.T) { // P25.1, P1
	met := map[api.Errno]int{}
	for seed := range int64(60) {
		r := rand.New(rand.NewSource(seed))
		x := newTwins(t, geos[r.Intn(len(geos))], 2)
		for k := range x.c {
			if seed%3 == 0 {
				is(t, "Script", x.c[k].Script([]api.Fault{{At: 60 + int(seed), Kind: api.Within}}), api.OK)
			}
		}
		m := maker{r: r, keeps: seed%4 == 0}
		for range 300 {
			met[x.does(t, m.op()).Err]++
		}
		sameChips(t, x.c[1], x.c[0])
		if x.c[0].Up() {
			sameHeld(t, x.f[1], x.f[0])
		}
	}
	for _, e := range []api.Errno{api.OK, api.ErrArg, api.ErrDown, api.ErrPath, api.ErrName, api.ErrNoEntry, api.ErrExist, api.ErrNotDir, api.ErrIsDir, api.ErrNotEmpty, api.ErrHandle, api.ErrHandles, api.ErrSpace, api.ErrBig, api.ErrInside, api.ErrRoot, api.ErrAccess} {
		if met[e] < 3 {
			t.Error("met too seldom:", e, met[e])
		}
	}
}

// geos are some chips that are small enough to be full at times.
var geos = []api.Geo{{Blocks: 22, Pages: 8, Size: 64}, {Blocks: 30, Pages: 8, Size: 64}, {Blocks: 12, Pages: 12, Size: 128}, {Blocks: 15, Pages: 9, Size: 256}, {Blocks: 14, Pages: 9, Size: 512}, {Blocks: 11, Pages: 32, Size: 64}}

// maker makes operations by chance.
type maker struct {
	r     *rand.Rand
	right bool // whether all are right
	keeps bool // whether handles are never closed
}

func (m maker) path() string {
	switch m.r.Intn(30) {
	case 0:
		return []string{"", "a", "/.", "/a/..", "/abcdefghijklmn", "/\x00", "/", "//", strings.Repeat("/a", 17), strings.Repeat("/a", 127), "/a" + strings.Repeat("/", 253)}[m.r.Intn(11)]
	case 1:
		if !m.right {
			return strings.Repeat("/", 256+m.r.Intn(300))
		}
	}
	p := ""
	for range 1 + m.r.Intn(3) {
		p += "/" + string("abcdef"[m.r.Intn(6)])
	}
	return p
}

func (m maker) handle() int {
	if m.r.Intn(20) == 0 {
		return []int{-1, 16, math.MaxInt32, math.MinInt32, 1 << 20}[m.r.Intn(5)]
	}
	return min(m.r.Intn(17), m.r.Intn(16), m.r.Intn(16))
}

func (m maker) off() int64 {
	edges := []int64{0, 1, 63, 64, 65, 384, 1000, 4000, 20000, 1 << 30, 1 << 40, 1<<40 + 1, math.MaxInt64, math.MinInt64}
	if m.r.Intn(3) > 0 {
		return m.r.Int63n(500)
	}
	return edges[m.r.Intn(len(edges))] - m.r.Int63n(2)
}

// number is an N, which may be flags, a count, or a number from where.
func (m maker) number(kind int) int {
	switch {
	case m.r.Intn(20) == 0:
		return []int{-1, 64, 1025, math.MaxInt32, math.MinInt32, m.r.Intn(64)}[m.r.Intn(6)]
	case kind == anOpen:
		return []int{1, 2, 3, 7, 7, 7, 15, 18, 22, 34, 38}[m.r.Intn(11)]
	case kind == aSeek:
		return m.r.Intn(3)
	}
	return m.r.Intn(1025)
}

func (m maker) bytes() []byte {
	n := m.r.Intn(300)
	if m.r.Intn(20) == 0 {
		n = []int{0, 1023, 1024, 1024, 1025}[m.r.Intn(5)]
	}
	if m.right {
		n = min(n, 1024)
	}
	b := make([]byte, n)
	m.r.Read(b)
	return b
}

// op is an operation, with more than it uses at times. Most are of kinds that let something grow.
func (m maker) op() Op {
	kinds := []int{1, 1, 1, 1, 1, 2, 3, 3, 4, 4, 4, 4, 5, 5, 6, 7, 7, 8, 9, 9, 10, 11, 11, 12, 13, 14}
	if m.keeps {
		kinds[5] = anOpen
	}
	o := Op{Kind: kinds[m.r.Intn(len(kinds))], Path: m.path(), Handle: m.handle(), Off: m.off()}
	o.N = m.number(o.Kind)
	if o.Kind == aLink || o.Kind == aRename || m.r.Intn(9) == 0 {
		o.To = m.path()
	}
	if o.Kind == aWrite || m.r.Intn(9) == 0 {
		o.Bytes = m.bytes()
	}
	if !m.right && m.r.Intn(60) == 0 {
		l := allWrongs()
		return l[m.r.Intn(len(l))]
	}
	return o
}

// ops are so many.
func (m maker) ops(n int) []Op {
	var l []Op
	for range n {
		l = append(l, m.op())
	}
	return l
}

// scripted is a new file system on a new chip, to which so much is to happen.
func scripted(t *testing.T, g api.Geo, reserve int, l ...api.Fault) (*nand.Chip, *fs.FS) {
	t.Helper()
	c, f := fresh(t, g, reserve)
	is(t, "Script", c.Script(l), api.OK)
	return c, f
}
