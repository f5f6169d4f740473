package hist

import (
	"fmt"
	"testing"

	"cuneiform/api"
	"cuneiform/fs"
)

// keeps fails the test, if a history has other steps.
func keeps(t *testing.T, h *History, want ...step) {
	t.Helper()
	k := 0
	for o, a := range h.All() {
		if k >= len(want) {
			t.Error("more is kept:", shown(o))
			return
		}
		if !sameOp(o, want[k].op) || !alike(a, want[k].answer) {
			t.Errorf("step %d: %s, %v, not %s, %v", k, shown(o), a, shown(want[k].op), want[k].answer)
		}
		k++
	}
	if k < len(want) {
		t.Errorf("%d are kept, not %d", k, len(want))
	}
}

// again fails the test, if something else is told of what is done again.
func again(t *testing.T, what string, h *History, f *fs.FS, n int, e api.Errno) {
	t.Helper()
	if got, err := h.Again(f); got != n || err != e {
		t.Errorf("Again with %s: %d, %d, not %d, %d", what, got, err, n, e)
	}
}

// steps are some, that a new file system answers so.
func steps() []step {
	return []step{
		{Op{Kind: 1, Path: "/a", N: 7}, Answer{}},
		{Op{Kind: 4, Bytes: []byte("xyz")}, Answer{N: 3}},
		{Op{Kind: 7, Path: "/a"}, Answer{Err: api.ErrExist}},
		{Op{Kind: 5, Off: 1}, Answer{N: 1}},
		{Op{Kind: 3, N: 9}, Answer{Bytes: []byte("yz")}},
		{Op{Kind: 99, Path: "/b", Bytes: []byte("not right")}, Answer{Err: api.ErrArg}},
		{Op{Kind: 1, Path: "/a", N: 1}, Answer{N: 1}},
		{Op{Kind: 12, Path: "/a"}, Answer{N: 3}},
	}
}

func TestHistory(t *testing.T) { // P25.3, P25.4
	_, f := little(t)
	h := New(f)
	keeps(t, h)
	var l []step
	for _, s := range steps() {
		answers(t, shown(s.op), h.Do(s.op), s.answer)
		l = append(l, s)
		keeps(t, h, l...)
	}
	_, g := little(t)
	again(t, "another one", h, g, len(l), api.OK)
	sameHeld(t, g, f)
	keeps(t, h, l...)
}

func TestHistoriesOfOne(t *testing.T) { // P25.3: each has its own steps; what is done otherwise is in none
	_, f := little(t)
	h, g := New(f), New(f)
	answers(t, "Do", h.Do(Op{Kind: 7, Path: "/d"}), Answer{})
	answers(t, "Do", g.Do(Op{Kind: 7, Path: "/d"}), Answer{Err: api.ErrExist})
	answers(t, "Do", Do(f, Op{Kind: 8, Path: "/d"}), Answer{})
	answers(t, "Do", h.Do(Op{Kind: 8, Path: "/d"}), Answer{Err: api.ErrNoEntry})
	keeps(t, h, step{Op{Kind: 7, Path: "/d"}, Answer{}}, step{Op{Kind: 8, Path: "/d"}, Answer{Err: api.ErrNoEntry}})
	keeps(t, g, step{Op{Kind: 7, Path: "/d"}, Answer{Err: api.ErrExist}})
}

func TestHistoryOfNoFileSystem(t *testing.T) { // P25.3, P1
	for what, f := range map[string]*fs.FS{"nil": nil, "the zero value": {}, "one that is unmounted": unmounted(t)} {
		h := New(f)
		var l []step
		for kind := 1; kind <= 14; kind++ {
			for _, o := range append(edges(kind), Op{Kind: kind}, Op{Kind: kind, N: 64}, Op{Kind: kind, Handle: -1, N: -1}) {
				l = append(l, step{o, Answer{Err: api.ErrNil}})
			}
			l = append(l, step{wrongs(kind)[0], Answer{Err: api.ErrArg}})
		}
		for _, s := range l {
			answers(t, shown(s.op)+" of "+what, h.Do(s.op), s.answer)
		}
		keeps(t, h, l...)
		again(t, "nil", h, nil, 0, api.ErrNil)
		_, g := little(t)
		again(t, "a new one", h, g, 0, api.OK)
	}
	h := &History{}
	answers(t, "Do of the zero value", h.Do(Op{Kind: 14}), Answer{Err: api.ErrNil})
	answers(t, "Do of the zero value", h.Do(Op{}), Answer{Err: api.ErrArg})
	keeps(t, h, step{Op{Kind: 14}, Answer{Err: api.ErrNil}}, step{Op{}, Answer{Err: api.ErrArg}})
}

func TestNoHistory(t *testing.T) { // P25.3, P25.4, P1
	var h *History
	for _, o := range append(allWrongs(), edges(1)[0], Op{Kind: 14}) {
		answers(t, shown(o), h.Do(o), Answer{Err: api.ErrNil})
	}
	for range 2 {
		keeps(t, h)
	}
	_, f := little(t)
	again(t, "a file system", h, f, 0, api.ErrNil)
	again(t, "nil", h, nil, 0, api.ErrNil)
}

func TestHistoryOfWhatIsDown(t *testing.T) { // P25.3
	c, f := some(t)
	h := New(f)
	c.Lose()
	l := []step{{Op{Kind: 12, Path: "/a"}, Answer{Err: api.ErrDown}}, {Op{Kind: 1, Path: "/a", N: 64}, Answer{Err: api.ErrArg}}, {Op{Kind: 14}, Answer{Err: api.ErrDown}}}
	for _, s := range l {
		answers(t, shown(s.op), h.Do(s.op), s.answer)
	}
	keeps(t, h, l...)
	again(t, "itself", h, f, 3, api.OK)
	_, g := little(t)
	again(t, "a new one", h, g, 0, api.OK)
}

func TestTheMost(t *testing.T) { // P25.3: more are not done, and not kept, and this is named ahead of all else
	c, f := little(t)
	_, g := little(t)
	for _, h := range []*History{New(f), New(nil)} {
		var l []step
		for k := range 4096 {
			o := Op{Kind: 12, Path: "/", N: k}
			if k%5 == 0 {
				o = Op{Kind: k} // most of these are not right
			}
			if k == 4095 {
				o = Op{Kind: 1, Path: "/last", N: 7}
			}
			l = append(l, step{o, h.Do(o)})
		}
		strokes := c.Strokes()
		for _, o := range append(allWrongs(), Op{Kind: 7, Path: "/more"}, Op{Kind: 1, Path: "/last", N: 7}, Op{Kind: 14}) {
			answers(t, shown(o), h.Do(o), Answer{Err: api.ErrLong})
		}
		if c.Strokes() != strokes {
			t.Error("the chip was used")
		}
		keeps(t, h, l...)
		want := 4096
		if h.files == nil {
			want = 1 // what is not right answers the same anywhere
		}
		_, other := little(t)
		again(t, "a new one", h, other, want, api.OK)
	}
	for p := range f.Walk("/") {
		if p != "/last" {
			t.Error("there is", p)
		}
	}
	if h, e := f.Open("/last", 1); h != 1 || e != api.OK {
		t.Error("Open:", h, e)
	}
	// What was done directly has no such bound.
	for range 5000 {
		answers(t, "Do", Do(g, Op{Kind: 12, Path: "/"}), Answer{})
	}
}

func TestAllAsFarAsAsked(t *testing.T) { // P25.3
	_, f := little(t)
	h := New(f)
	for _, s := range steps() {
		h.Do(s.op)
	}
	for n := range len(steps()) {
		k := 0
		for o := range h.All() {
			if !sameOp(o, steps()[k].op) {
				t.Error("the step", k, "is", shown(o))
			}
			if k == n {
				break
			}
			k++
		}
		if k != n {
			t.Error("asked for", n, "told", k)
		}
	}
}

func TestAllWhileMoreIsDone(t *testing.T) { // P25.3: those of the time when it was called, as often as they are ranged over
	_, f := little(t)
	h := New(f)
	for _, s := range steps() {
		h.Do(s.op)
	}
	all := h.All()
	for range 3 {
		k := 0
		for o, a := range all {
			if want := steps()[k]; !sameOp(o, want.op) || !alike(a, want.answer) {
				t.Error("the step", k, "is", shown(o), a)
			}
			h.Do(Op{Kind: 7, Path: fmt.Sprint("/", k)})
			k++
		}
		if k != len(steps()) {
			t.Error("told", k)
		}
	}
	n := 0
	for range h.All() {
		n++
	}
	if n != 4*len(steps()) {
		t.Error("kept:", n)
	}
}

func TestWhatIsKeptIsNew(t *testing.T) { // P25.3
	_, f := little(t)
	h := New(f)
	b := []byte("hello")
	h.Do(Op{Kind: 1, Path: "/a", N: 7})
	h.Do(Op{Kind: 4, Bytes: b})
	h.Do(Op{Kind: 5})
	a := h.Do(Op{Kind: 3, N: 5, Bytes: b})
	if string(b) != "hello" {
		t.Error("what was handed in is", string(b))
	}
	copy(b, "XXXXX")
	copy(a.Bytes, "YYYYY")
	want := []step{{Op{Kind: 1, Path: "/a", N: 7}, Answer{}}, {Op{Kind: 4, Bytes: []byte("hello")}, Answer{N: 5}}, {Op{Kind: 5}, Answer{}}, {Op{Kind: 3, N: 5, Bytes: []byte("hello")}, Answer{Bytes: []byte("hello")}}}
	keeps(t, h, want...)
	for range 2 {
		for o, a := range h.All() {
			for _, b := range [][]byte{o.Bytes, a.Bytes} {
				for k := range b {
					b[k] = 'Z'
				}
			}
		}
	}
	keeps(t, h, want...)
	_, g := little(t)
	again(t, "a new one", h, g, 4, api.OK)
	if s := textOf(t, g, "/a"); s != "hello" {
		t.Error("in /a stands", s)
	}
}

func TestAgainOfNothing(t *testing.T) { // P25.4
	c, f := little(t)
	h := New(f)
	strokes := c.Strokes()
	again(t, "itself", h, f, 0, api.OK)
	again(t, "nil", h, nil, 0, api.ErrNil)
	again(t, "the zero value", h, &fs.FS{}, 0, api.ErrNil)
	again(t, "one that is unmounted", h, unmounted(t), 0, api.ErrNil)
	again(t, "another one, of none", New(nil), f, 0, api.OK)
	if c.Strokes() != strokes {
		t.Error("the chip was used")
	}
}

func TestAgainUpToTheFirst(t *testing.T) { // P25.4: that one is done, none behind it is
	l := []Op{{Kind: 7, Path: "/a"}, {Kind: 7, Path: "/b"}, {Kind: 1, Path: "/c", N: 7}, {Kind: 4, Bytes: []byte("xyz")}, {Kind: 7, Path: "/d"}, {Kind: 7, Path: "/e"}}
	for _, c := range []struct {
		what  string
		ahead []Op
		same  int
		there []string
	}{
		{"none", nil, 6, []string{"/a", "/b", "/c", "/d", "/e"}},
		{"the first", []Op{{Kind: 7, Path: "/a"}}, 0, []string{"/a"}},
		{"the second", []Op{{Kind: 7, Path: "/b"}}, 1, []string{"/b", "/a"}},
		{"a handle", []Op{{Kind: 1, Path: "/x", N: 7}}, 2, []string{"/x", "/a", "/b", "/c"}},
		{"the fifth", []Op{{Kind: 7, Path: "/d"}}, 4, []string{"/d", "/a", "/b", "/c"}},
		{"the last", []Op{{Kind: 7, Path: "/e"}}, 5, []string{"/e", "/a", "/b", "/c", "/d"}},
	} {
		_, f := little(t)
		h := New(f)
		for _, o := range l {
			h.Do(o)
		}
		_, g := little(t)
		for _, o := range c.ahead {
			answers(t, shown(o), Do(g, o), Answer{})
		}
		again(t, "one that differs in "+c.what, h, g, c.same, api.OK)
		var there []string
		for p := range g.Walk("/") {
			there = append(there, p)
		}
		if fmt.Sprint(there) != fmt.Sprint(c.there) {
			t.Error(c.what, "there is", there, "not", c.there)
		}
	}
}

func TestAgainAnswersOtherwise(t *testing.T) { // P25.4: another error, another number, other bytes
	made := func(text string, size int64) *fs.FS {
		_, f := little(t)
		h, e := f.Open("/a", 7)
		is(t, "Open", e, api.OK)
		_, e = f.Write(h, []byte(text))
		is(t, "Write", e, api.OK)
		is(t, "Truncate", f.Truncate("/a", size), api.OK)
		_, e = f.Seek(h, 0, 0)
		is(t, "Seek", e, api.OK)
		return f
	}
	for _, c := range []struct {
		op   Op
		text string
		size int64
	}{
		{Op{Kind: 3, N: 9}, "xyw", 3},
		{Op{Kind: 3, N: 9}, "xy", 2},
		{Op{Kind: 3, N: 9}, "xyz", 4},
		{Op{Kind: 3, N: 9}, "", 0},
		{Op{Kind: 5, Off: -1, N: 2}, "xyz", 4},
		{Op{Kind: 5, Off: -1, N: 2}, "xyz", 0},
		{Op{Kind: 12, Path: "/a"}, "xyz", 2},
	} {
		h := New(made("xyz", 3))
		is(t, "Do", h.Do(c.op).Err, api.OK)
		again(t, "the same", h, made("xyz", 3), 1, api.OK)
		again(t, "another one", h, made(c.text, c.size), 0, api.OK)
	}
	// And from an error to none, and to another one.
	_, f := little(t)
	h := New(f)
	is(t, "Do", h.Do(Op{Kind: 8, Path: "/a"}).Err, api.ErrNoEntry)
	again(t, "a file there", h, made("", 0), 0, api.OK)
	_, g := little(t)
	is(t, "Mkdir", g.Mkdir("/a"), api.OK)
	again(t, "a directory there", h, g, 0, api.OK)
	again(t, "none there now", h, g, 1, api.OK)
}

func TestAgainOfWhatIsDown(t *testing.T) { // P25.4
	_, f := little(t)
	h := New(f)
	h.Do(Op{Kind: 99})
	h.Do(Op{Kind: 14})
	c, g := little(t)
	c.Lose()
	again(t, "one that is down", h, g, 1, api.OK)
	again(t, "one that is unmounted", h, unmounted(t), 0, api.ErrNil)
	again(t, "nil", h, nil, 0, api.ErrNil)
}
