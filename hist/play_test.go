package hist

import (
	"bytes"
	"encoding/hex"
	"fmt"
	"math/rand"
	"strings"
	"testing"

	"cuneiform/api"
	"cuneiform/desk"
	"cuneiform/diff"
	"cuneiform/fs"
	"cuneiform/pack"
	"cuneiform/usage"
)

// played is a history of operations by chance.
func played(m maker, f *fs.FS, n int) (*History, []step) {
	h := New(f)
	var l []step
	for range n {
		o := m.op()
		l = append(l, step{o, h.Do(o)})
	}
	return h, l
}

func TestDoneAgain(t *testing.T) { // P25.3, P25.6
	met := map[api.Errno]int{}
	for seed := range int64(60) {
		r := rand.New(rand.NewSource(seed))
		g, reserve := geos[r.Intn(len(geos))], 1+r.Intn(2)
		c, f := fresh(t, g, reserve)
		h, l := played(maker{r: r, keeps: seed%4 == 0}, f, 300)
		keeps(t, h, l...)
		for _, s := range l {
			met[s.answer.Err]++
		}
		d, other := fresh(t, g, reserve)
		again(t, "a new one", h, other, len(l), api.OK)
		keeps(t, h, l...)
		sameChips(t, d, c)
		there := holds(t, f)
		held(t, other, there)
		// And once more, by what was kept.
		d, other = fresh(t, g, reserve)
		for o, a := range h.All() {
			answers(t, shown(o), Do(other, o), a)
		}
		held(t, other, there)
	}
	if len(met) < 16 || met[api.ErrSpace] < 20 {
		t.Error("met:", met)
	}
}

func TestTreesAreMadeAgain(t *testing.T) { // W7, P25.5, P25.6: operations are written, read, and done with a new file system
	entries := 0
	for seed := range int64(30) {
		r := rand.New(rand.NewSource(1000 + seed))
		g := geos[r.Intn(len(geos))]
		_, f := fresh(t, g, 2)
		h, _ := played(maker{r: r, right: true}, f, 150)
		var l []Op
		for o := range h.All() {
			l = append(l, o)
		}
		b, e := Write(l)
		is(t, "Write", e, api.OK)
		l, e = Read(b)
		is(t, "Read", e, api.OK)
		_, other := fresh(t, g, 2)
		made := New(other)
		for _, o := range l {
			made.Do(o)
		}
		_, last := fresh(t, g, 2)
		again(t, "a new one", made, last, len(l), api.OK)
		for h := range api.MaxHandles {
			for _, f := range []*fs.FS{f, other, last} {
				f.Close(h)
			}
		}
		for _, g := range []*fs.FS{other, last} {
			if l, e := diff.Compare(f, "/", g, "/"); len(l) != 0 || e != api.OK {
				t.Error("Compare:", l, e)
			}
			a, e := pack.Pack(f, "/")
			is(t, "Pack", e, api.OK)
			if b, e := pack.Pack(g, "/"); !bytes.Equal(a, b) || e != api.OK {
				t.Error("the archives differ:", e)
			}
			s, e := usage.Of(f, "/")
			is(t, "Of", e, api.OK)
			if u, e := usage.Of(g, "/"); u != s || e != api.OK {
				t.Error("Of:", u, e, "not", s)
			}
			entries += s.Names
		}
	}
	if entries < 300 {
		t.Error("entries:", entries)
	}
}

func TestWithinTheReserve(t *testing.T) { // P25.6: blocks that fail within the reserve are not seen
	for seed := range int64(40) {
		r := rand.New(rand.NewSource(2000 + seed))
		g := geos[r.Intn(len(geos))]
		fails := []api.Fault{{At: r.Intn(200), Kind: api.Failed}, {At: 200 + r.Intn(300), Kind: api.Failed}}
		_, f := scripted(t, g, 2, fails...)
		h, l := played(maker{r: r}, f, 250)
		_, other := fresh(t, g, 2)
		again(t, "one in which nothing fails", h, other, len(l), api.OK)
		_, other = scripted(t, g, 2, api.Fault{At: r.Intn(300), Kind: api.Failed})
		again(t, "one in which something else fails", h, other, len(l), api.OK)
	}
}

func TestWhereThePowerGoes(t *testing.T) { // P25.3, P25.4, P1
	went := 0
	for seed := range int64(60) {
		r := rand.New(rand.NewSource(3000 + seed))
		g := geos[r.Intn(len(geos))]
		gone := api.Fault{At: r.Intn(90), Kind: api.Ahead + r.Intn(2)}
		c, f := scripted(t, g, 2, gone)
		h, l := played(maker{r: r}, f, 200)
		keeps(t, h, l...)
		first := len(l)
		for k, s := range l {
			if s.answer.Err == api.ErrDown {
				first = k
				went++
				break
			}
		}
		d, other := scripted(t, g, 2, gone)
		again(t, "one of which the power goes likewise", h, other, len(l), api.OK)
		sameChips(t, d, c)
		_, other = fresh(t, g, 2)
		again(t, "one of which it does not", h, other, first, api.OK)
		// The other way round.
		_, other = fresh(t, g, 2)
		h = New(other)
		for _, s := range l {
			h.Do(s.op)
		}
		_, other = scripted(t, g, 2, gone)
		again(t, "one of which it goes", h, other, first, api.OK)
	}
	if went < 20 {
		t.Error("went:", went)
	}
}

// line is the line of a desk that does what an operation does, if there is one.
func line(o Op) (string, bool) {
	if strings.ContainsAny(o.Path+o.To, " \n") || o.Path == "" || (o.Kind == 9 || o.Kind == 11) && o.To == "" {
		return "", false
	}
	text := hex.EncodeToString(o.Bytes)
	if text == "" {
		text = "-"
	}
	return []string{
		1:  fmt.Sprintf("open %s %d", o.Path, o.N),
		2:  fmt.Sprintf("close %d", o.Handle),
		3:  fmt.Sprintf("read %d %d", o.Handle, o.N),
		4:  fmt.Sprintf("write %d %s", o.Handle, text),
		5:  fmt.Sprintf("seek %d %d %d", o.Handle, o.Off, o.N),
		6:  fmt.Sprintf("truncate %s %d", o.Path, o.Off),
		7:  "mkdir " + o.Path,
		8:  "rmdir " + o.Path,
		9:  "link " + o.Path + " " + o.To,
		10: "unlink " + o.Path,
		11: "rename " + o.Path + " " + o.To,
		12: "stat " + o.Path,
		13: fmt.Sprintf("fsync %d", o.Handle),
		14: "sync",
	}[o.Kind], true
}

// said fails the test, if a desk's answer is another one than an operation's.
func said(t *testing.T, o Op, text string, a Answer) {
	t.Helper()
	want := "ok"
	switch {
	case a.Err != api.OK:
		want = fmt.Sprint("error ", int(a.Err))
	case o.Kind == 1:
		want = fmt.Sprint("handle ", a.N)
	case o.Kind == 3 && len(a.Bytes) == 0:
		want = "bytes -"
	case o.Kind == 3:
		want = fmt.Sprintf("bytes %x", a.Bytes)
	case o.Kind == 4:
		want = fmt.Sprint("wrote ", a.N)
	case o.Kind == 5:
		want = fmt.Sprint("at ", a.N)
	case o.Kind == 12:
		var inode, kind, links, size, pages int64
		fmt.Sscanf(text, "inode %d kind %d links %d size %d pages %d", &inode, &kind, &links, &size, &pages)
		text, want = fmt.Sprint(size), fmt.Sprint(a.N)
	}
	if text != want {
		t.Errorf("%s: a desk says %q, not %q", shown(o), text, want)
	}
}

func TestADeskAnswersTheSame(t *testing.T) { // W7
	for seed := range int64(30) {
		r := rand.New(rand.NewSource(4000 + seed))
		g := geos[r.Intn(len(geos))]
		_, f := fresh(t, g, 2)
		d := desk.New()
		for _, s := range []string{fmt.Sprintf("chip %d %d %d", g.Blocks, g.Pages, g.Size), "format 2", "mount"} {
			if got := d.Line(s); got != "ok" {
				t.Fatal(s, got)
			}
		}
		m := maker{r: r, right: true}
		for range 200 {
			o := m.op()
			if s, ok := line(o); ok {
				said(t, o, d.Line(s), Do(f, o))
			}
		}
	}
}
