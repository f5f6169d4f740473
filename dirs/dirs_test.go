package dirs

import (
	"bytes"
	"iter"
	"math"
	"math/rand"
	"slices"
	"strings"
	"testing"

	"cuneiform/api"
)

const long = "abcdefghijklm" // a name of as many bytes as there may be

var (
	someNames  = []string{"a", "ab", "...", "é", "\xff\xff", "a b", long, strings.Repeat("\xff", 13)}
	noNames    = []string{"", ".", "..", "/", "a/b", "\x00", "a\x00", "\x00a", long + "n", strings.Repeat("a", 300)}
	someInodes = []int{1, 2, 255, 256, 257, 0x1234, 1<<16 - 1}
	noInodes   = []int{0, -1, 1 << 16, 1<<16 + 1, 1 << 17, 1<<32 + 5, math.MaxInt, math.MinInt}
)

// aSlot are sixteen bytes: an inode, a length, and what stands behind it.
func aSlot(inode, length int, behind string) []byte {
	b := make([]byte, 16)
	b[0], b[1], b[2] = byte(inode), byte(inode>>8), byte(length)
	copy(b[3:], behind)
	return b
}

// of is the slot of an entry.
func of(inode int, name string) []byte {
	return aSlot(inode, len(name), name)
}

// gap is an empty slot.
func gap() []byte {
	return make([]byte, 16)
}

// dir are slots one behind the other.
func dir(slots ...[]byte) []byte {
	return slices.Concat(slots...)
}

// noSlots are sixteen bytes each, neither empty nor an entry's.
func noSlots() [][]byte {
	l := [][]byte{
		aSlot(0, 1, "a"),
		aSlot(0, 0, "\x00a"),
		aSlot(3, 0, ""),
		aSlot(3, 0, "a"),
		aSlot(3, 1, ""),
		aSlot(3, 1, "ab"),
		aSlot(3, 1, "a\x00\x00\x00\x00\x00\x00\x00\x00\x00\x00\x00b"),
		aSlot(3, 2, "a"),
		aSlot(3, 3, "a\x00b"),
		aSlot(3, 3, "a/b"),
		aSlot(3, 1, "/"),
		aSlot(3, 1, "."),
		aSlot(3, 2, ".."),
		aSlot(3, 14, long+"n"),
		aSlot(3, 13, long[:12]),
		bytes.Repeat([]byte{255}, 16),
	}
	for _, n := range []int{14, 15, 16, 29, 127, 128, 255} {
		l = append(l, aSlot(3, n, long))
	}
	// All 0 but one byte.
	for at := range 16 {
		b := gap()
		b[at] = 1
		l = append(l, b)
	}
	return l
}

// asTold tells of sixteen bytes what the document says they are.
func asTold(b []byte) (e api.Entry, there, none bool) {
	if bytes.Equal(b, gap()) {
		return e, false, false
	}
	inode, n := int(b[0])+256*int(b[1]), int(b[2])
	if inode == 0 || n < 1 || n > 13 {
		return e, false, true
	}
	name := string(b[3 : 3+n])
	if name == "." || name == ".." || strings.ContainsAny(name, "/\x00") || strings.Trim(string(b[3+n:]), "\x00") != "" {
		return e, false, true
	}
	return api.Entry{Inode: inode, Name: name}, true, false
}

// same fails the test, if a call changed what it was handed.
func same(t *testing.T, got, want []byte) {
	t.Helper()
	if !bytes.Equal(got, want) {
		t.Fatalf("what was handed in was changed to %v", got)
	}
}

// fresh fails the test, if an answer shares memory with what was handed in. It spoils the answer.
func fresh(t *testing.T, answer, handed []byte) {
	t.Helper()
	kept := bytes.Clone(handed)
	answer = answer[:cap(answer)]
	for i := range answer {
		answer[i] ^= 255
	}
	same(t, handed, kept)
}

// numbered is an entry with the number of its slot.
type numbered struct {
	k int
	e api.Entry
}

// told are the entries that are handed over, n of them at most.
func told(all iter.Seq2[int, api.Entry], n int) []numbered {
	var l []numbered
	for k, e := range all {
		l = append(l, numbered{k, e})
		if len(l) == n {
			break
		}
	}
	return l
}

func TestWrite(t *testing.T) { // P8.1
	b, err := Write(api.Entry{Inode: 3, Name: "ab"})
	if want := []byte{3, 0, 2, 97, 98, 0, 0, 0, 0, 0, 0, 0, 0, 0, 0, 0}; err != api.OK || !bytes.Equal(b, want) {
		t.Errorf("the example: %v, %d", b, err)
	}
	for _, inode := range someInodes {
		for _, name := range someNames {
			if b, err := Write(api.Entry{Inode: inode, Name: name}); err != api.OK || !bytes.Equal(b, of(inode, name)) {
				t.Errorf("Write of %d, %q: %v, %d", inode, name, b, err)
			}
		}
	}
}

func TestWriteOfWhatMayNotBe(t *testing.T) { // P8.1, P1
	refused := func(inode int, name string, want api.Errno) {
		t.Helper()
		if b, err := Write(api.Entry{Inode: inode, Name: name}); err != want || len(b) != 0 {
			t.Errorf("Write of %d, %q: %v, %d, not %d", inode, name, b, err, want)
		}
	}
	for _, inode := range noInodes {
		for _, name := range append(slices.Clone(someNames), noNames...) {
			refused(inode, name, api.ErrArg)
		}
	}
	for _, inode := range someInodes {
		for _, name := range noNames {
			refused(inode, name, api.ErrName)
		}
	}
}

func TestRead(t *testing.T) { // P8.1, P8.5
	for _, inode := range someInodes {
		for _, name := range someNames {
			b := of(inode, name)
			e, there, err := Read(b)
			if err != api.OK || !there || e != (api.Entry{Inode: inode, Name: name}) {
				t.Errorf("Read of %v: %v, %v, %d", b, e, there, err)
			}
			same(t, b, of(inode, name))
			if again, err := Write(e); err != api.OK || !bytes.Equal(again, b) {
				t.Errorf("%v was read, and is written as %v, %d", b, again, err)
			}
			clear(b)
			if e.Name != name {
				t.Error("what was read shares the bytes' memory")
			}
		}
	}
	if e, there, err := Read(gap()); err != api.OK || there || e != (api.Entry{}) {
		t.Errorf("Read of an empty slot: %v, %v, %d", e, there, err)
	}
}

func TestReadOfWhatIsNone(t *testing.T) { // P8.1, P1
	for _, b := range noSlots() {
		if e, there, err := Read(b); err != api.ErrEntry || there || e != (api.Entry{}) {
			t.Errorf("Read of %v: %v, %v, %d", b, e, there, err)
		}
	}
	for n := range 50 {
		for _, b := range [][]byte{make([]byte, n), bytes.Repeat([]byte{1}, n), dir(of(3, "ab"), of(3, "ab"), of(3, "ab"), of(3, "ab"))[:n]} {
			if e, there, err := Read(b); n != 16 && (err != api.ErrArg || there || e != (api.Entry{})) {
				t.Errorf("Read of %d bytes: %v, %v, %d", n, e, there, err)
			}
		}
	}
	if _, _, err := Read(nil); err != api.ErrArg {
		t.Error("Read of nothing:", err)
	}
}

func TestReadOfEachByteAtEachPlace(t *testing.T) { // P8.1, P1
	entries, empties, nones := 0, 0, 0
	for _, whole := range [][]byte{gap(), of(1, "a"), of(3, ".a"), of(256, "..a"), of(1<<16-1, long), of(2, long[:12])} {
		for at := range whole {
			for x := range 256 {
				b := bytes.Clone(whole)
				b[at] = byte(x)
				want, wantThere, none := asTold(b)
				e, there, err := Read(b)
				if e != want || there != wantThere || (err == api.ErrEntry) != none || (err == api.OK) == none {
					t.Fatalf("Read of %v: %v, %v, %d", b, e, there, err)
				}
				switch {
				case none:
					nones++
				case there:
					entries++
				default:
					empties++
				}
			}
		}
	}
	if entries == 0 || empties == 0 || nones == 0 {
		t.Error("too few kinds:", entries, empties, nones)
	}
}

func TestAll(t *testing.T) { // P8.2
	b := dir(of(3, "a"), gap(), of(0, "x"), of(4, "b"), aSlot(5, 2, "c"), of(6, "a"), gap(), of(1<<16-1, long))
	want := []numbered{{0, api.Entry{Inode: 3, Name: "a"}}, {3, api.Entry{Inode: 4, Name: "b"}}, {5, api.Entry{Inode: 6, Name: "a"}}, {7, api.Entry{Inode: 1<<16 - 1, Name: long}}}
	kept := bytes.Clone(b)
	for n := 1; n <= len(want)+1; n++ {
		if got := told(All(b), n); !slices.Equal(got, want[:min(n, len(want))]) {
			t.Errorf("%d of All: %v", n, got)
		}
	}
	for _, behind := range [][]byte{{0}, {1, 0, 1, 97}, of(9, "z")[:15], gap(), dir(gap(), of(9, "z")[:15])} {
		if got := told(All(dir(b, behind)), -1); !slices.Equal(got, want) {
			t.Errorf("with %v behind: %v", behind, got)
		}
	}
	same(t, b, kept)
	for _, none := range [][]byte{nil, {}, gap(), make([]byte, 100), of(3, "a")[:15], dir(noSlots()...)} {
		if got := told(All(none), -1); len(got) != 0 {
			t.Errorf("All of %v: %v", none, got)
		}
	}
}

func TestAllAgain(t *testing.T) { // P8.2
	b := dir(of(3, "a"), of(4, "b"), of(5, "c"))
	want := told(All(b), -1)
	all := All(b)
	for range 2 {
		if got := told(all, 2); !slices.Equal(got, want[:2]) {
			t.Errorf("left behind two: %v", got)
		}
		if got := told(all, -1); !slices.Equal(got, want) {
			t.Errorf("gone through again: %v", got)
		}
	}
	pairs := 0
	for range all {
		for range all {
			pairs++
		}
	}
	if pairs != 9 {
		t.Error("one within another:", pairs)
	}
	// What was asked for is not kept: the bytes may be used anew.
	clear(b)
	if got := told(all, -1); !slices.Equal(got, want) {
		t.Errorf("behind a change of the bytes: %v", got)
	}
}

func TestCheck(t *testing.T) { // P8.2
	var many []byte
	for k := range 300 {
		many = append(many, of(k+1, string([]byte{'a' + byte(k/20), 'a' + byte(k%20)}))...)
	}
	for _, b := range [][]byte{
		nil, {}, of(3, "a"), dir(gap(), of(3, "a")), dir(of(3, "a"), gap(), gap(), of(3, "b")),
		dir(of(3, "a"), of(3, "A"), of(3, "ab"), of(3, "b")), many,
	} {
		if err := Check(b); err != api.OK {
			t.Errorf("Check of %v: %d", b, err)
		}
	}
	wrong := [][]byte{
		gap(), dir(gap(), gap()), dir(of(3, "a"), gap()), dir(of(3, "a"), of(3, "a")), dir(of(3, "a"), of(4, "a")),
		dir(of(3, "a"), gap(), of(5, "b"), of(4, "a")), dir(many, of(1, "aa")), dir(many, gap()), {0}, {1},
		of(3, "a")[:15], dir(of(3, "a"), []byte{0}), dir(of(3, "a"), of(4, "b")[:15]), make([]byte, 15), make([]byte, 17),
	}
	for _, none := range noSlots() {
		wrong = append(wrong, none, dir(none, of(3, "z")), dir(of(3, "z"), none), dir(of(4, "y"), none, of(3, "z")))
	}
	for _, b := range wrong {
		kept := bytes.Clone(b)
		if err := Check(b); err != api.ErrEntry {
			t.Errorf("Check of %v: %d", b, err)
		}
		same(t, b, kept)
	}
}

func TestFind(t *testing.T) { // P8.3
	b := dir(of(3, "a"), gap(), of(0, "x"), of(4, "b"), of(6, "a"), of(7, "ab"), of(1<<16-1, long))
	for _, c := range []struct {
		name     string
		k, inode int
	}{
		{"a", 0, 3}, {"b", 3, 4}, {"ab", 5, 7}, {long, 6, 1<<16 - 1},
		{"x", -1, 0}, {"c", -1, 0}, {"A", -1, 0}, {"abc", -1, 0}, {long[:12], -1, 0},
		{"", -1, 0}, {"a\x00", -1, 0}, {"\x00", -1, 0}, {".", -1, 0}, {"/", -1, 0}, {long + "n", -1, 0},
	} {
		if k, inode := Find(b, c.name); k != c.k || inode != c.inode {
			t.Errorf("Find of %q: %d, %d", c.name, k, inode)
		}
	}
	// Bytes at the end that are less than a slot are none.
	for _, b := range [][]byte{nil, {}, gap(), of(3, "a")[:15], dir(gap(), of(3, "a")[:4])} {
		for _, name := range []string{"a", ""} {
			if k, inode := Find(b, name); k != -1 || inode != 0 {
				t.Errorf("Find of %q in %v: %d, %d", name, b, k, inode)
			}
		}
	}
	for _, none := range noSlots() {
		if k, inode := Find(dir(none, of(5, "z"), of(6, "z")), "z"); k != 1 || inode != 5 {
			t.Errorf("Find behind %v: %d, %d", none, k, inode)
		}
	}
}

func TestRoom(t *testing.T) { // P8.3
	for _, c := range []struct {
		b    []byte
		want int
	}{
		{nil, 0}, {[]byte{}, 0}, {gap(), 0}, {dir(gap(), gap()), 0},
		{of(3, "a"), 1}, {dir(of(3, "a"), gap()), 1}, {dir(of(3, "a"), of(4, "b")), 2},
		{dir(of(3, "a"), gap(), of(4, "b"), gap()), 1}, {dir(gap(), of(4, "b")), 0},
		{dir(of(3, "a"), of(4, "a"), gap()), 2},
		{[]byte{0}, 0}, {make([]byte, 15), 0}, {dir(of(3, "a"), make([]byte, 15)), 1}, {dir(of(3, "a"), gap(), []byte{1}), 1},
	} {
		if got := Room(c.b); got != c.want {
			t.Errorf("Room of %v: %d, not %d", c.b, got, c.want)
		}
	}
	for _, none := range noSlots() {
		if got := Room(dir(of(3, "z"), none, gap())); got != 2 {
			t.Errorf("Room behind %v: %d", none, got)
		}
	}
}

func TestAdd(t *testing.T) { // P8.4
	for _, c := range []struct{ b, want []byte }{
		{nil, of(9, "n")},
		{of(3, "a"), dir(of(3, "a"), of(9, "n"))},
		{dir(of(3, "a"), of(3, "b")), dir(of(3, "a"), of(3, "b"), of(9, "n"))},
		{dir(gap(), of(3, "a")), dir(of(9, "n"), of(3, "a"))},
		{dir(of(3, "a"), gap(), of(3, "b"), gap(), of(3, "c")), dir(of(3, "a"), of(9, "n"), of(3, "b"), gap(), of(3, "c"))},
	} {
		kept := bytes.Clone(c.b)
		got, err := Add(c.b, api.Entry{Inode: 9, Name: "n"})
		if err != api.OK || !bytes.Equal(got, c.want) {
			t.Errorf("Add to %v: %v, %d", c.b, got, err)
		}
		same(t, c.b, kept)
		fresh(t, got, c.b)
	}
	// What stands behind the bytes in their memory is the caller's.
	all := dir(of(3, "a"), bytes.Repeat([]byte{7}, 32))
	if _, err := Add(all[:16], api.Entry{Inode: 9, Name: "n"}); err != api.OK {
		t.Error("Add to a part of more:", err)
	}
	same(t, all, dir(of(3, "a"), bytes.Repeat([]byte{7}, 32)))
}

func TestRemove(t *testing.T) { // P8.4
	a, b, c := of(3, "a"), of(4, "b"), of(5, "c")
	for _, x := range []struct {
		b    []byte
		name string
		want []byte
	}{
		{a, "a", nil},
		{dir(a, b), "a", dir(gap(), b)},
		{dir(a, b), "b", a},
		{dir(a, b, c), "b", dir(a, gap(), c)},
		{dir(a, gap(), c), "c", a},
		{dir(a, gap(), gap(), gap(), c), "c", a},
		{dir(gap(), gap(), c), "c", nil},
		{dir(gap(), b, gap(), c), "c", dir(gap(), b)},
		{dir(gap(), b, gap(), c), "b", dir(gap(), gap(), gap(), c)},
	} {
		kept := bytes.Clone(x.b)
		got, err := Remove(x.b, x.name)
		if err != api.OK || !bytes.Equal(got, x.want) {
			t.Errorf("Remove of %q from %v: %v, %d", x.name, x.b, got, err)
		}
		same(t, x.b, kept)
		fresh(t, got, x.b)
	}
}

func TestTurn(t *testing.T) { // P8.4
	a, b, c := of(3, "a"), of(4, "b"), of(5, long)
	for _, inode := range someInodes {
		for _, x := range []struct {
			name string
			want []byte
		}{
			{"a", dir(of(inode, "a"), gap(), b, c)},
			{"b", dir(a, gap(), of(inode, "b"), c)},
			{long, dir(a, gap(), b, of(inode, long))},
		} {
			handed := dir(a, gap(), b, c)
			got, err := Turn(handed, x.name, inode)
			if err != api.OK || !bytes.Equal(got, x.want) {
				t.Errorf("Turn of %q to %d: %v, %d", x.name, inode, got, err)
			}
			same(t, handed, dir(a, gap(), b, c))
			fresh(t, got, handed)
		}
	}
}

func TestOfBytesThatAreNotRight(t *testing.T) { // P8.4, P1
	wrong := [][]byte{gap(), dir(of(3, "a"), gap()), dir(of(3, "a"), of(4, "a")), of(3, "a")[:15], dir(of(3, "a"), []byte{0}), {1}}
	for _, none := range noSlots() {
		wrong = append(wrong, dir(of(3, "a"), none))
	}
	for _, b := range wrong {
		kept := bytes.Clone(b)
		for _, name := range []string{"a", "n", ".", ""} {
			for _, inode := range []int{9, 0} {
				if got, err := Add(b, api.Entry{Inode: inode, Name: name}); err != api.ErrEntry || len(got) != 0 {
					t.Errorf("Add of %d, %q to %v: %v, %d", inode, name, b, got, err)
				}
				if got, err := Turn(b, name, inode); err != api.ErrEntry || len(got) != 0 {
					t.Errorf("Turn of %q to %d in %v: %v, %d", name, inode, b, got, err)
				}
			}
			if got, err := Remove(b, name); err != api.ErrEntry || len(got) != 0 {
				t.Errorf("Remove of %q from %v: %v, %d", name, b, got, err)
			}
		}
		same(t, b, kept)
	}
}

func TestRefusals(t *testing.T) { // P8.4, P1
	b := dir(of(3, "a"), gap(), of(4, "b"))
	refused := func(what string, got []byte, err, want api.Errno) {
		t.Helper()
		if err != want || len(got) != 0 {
			t.Errorf("%s: %v, %d, not %d", what, got, err, want)
		}
		same(t, b, dir(of(3, "a"), gap(), of(4, "b")))
	}
	for _, inode := range noInodes {
		for _, name := range append(slices.Clone(noNames), "a", "b", "n") {
			got, err := Add(b, api.Entry{Inode: inode, Name: name})
			refused("Add of an inode that may not be", got, err, api.ErrArg)
		}
		for _, name := range []string{"a", "b"} {
			got, err := Turn(b, name, inode)
			refused("Turn to an inode that may not be", got, err, api.ErrArg)
		}
	}
	for _, name := range noNames {
		got, err := Add(b, api.Entry{Inode: 9, Name: name})
		refused("Add of no name", got, err, api.ErrName)
	}
	for _, name := range []string{"a", "b"} {
		for _, inode := range []int{3, 4, 9} {
			got, err := Add(b, api.Entry{Inode: inode, Name: name})
			refused("Add of what is there", got, err, api.ErrExist)
		}
	}
	for _, name := range append(slices.Clone(noNames), "n", "A", "ab") {
		for _, inode := range append(slices.Clone(noInodes), 9) {
			got, err := Turn(b, name, inode)
			refused("Turn of what is not there", got, err, api.ErrNoEntry)
		}
		got, err := Remove(b, name)
		refused("Remove of what is not there", got, err, api.ErrNoEntry)
		if got, err := Remove(nil, name); err != api.ErrNoEntry || len(got) != 0 {
			t.Errorf("Remove of %q from nothing: %v, %d", name, got, err)
		}
	}
}

// model is a directory told as a row of entries, those of no name being slots that are empty.
type model []api.Entry

// bytes are its slots.
func (m model) bytes() []byte {
	var b []byte
	for _, e := range m {
		b = append(b, of(e.Inode, e.Name)...)
	}
	return b
}

// add puts an entry to the first gap, or behind all.
func (m model) add(e api.Entry) model {
	for k := range m {
		if m[k].Name == "" {
			m[k] = e
			return m
		}
	}
	return append(m, e)
}

// remove leaves a gap, and no gap at the end.
func (m model) remove(k int) model {
	m[k] = api.Entry{}
	for len(m) > 0 && m[len(m)-1].Name == "" {
		m = m[:len(m)-1]
	}
	return m
}

// agree fails the test, if bytes are not those of a model, or are not told so.
func (m model) agree(t *testing.T, b []byte) {
	t.Helper()
	if !bytes.Equal(b, m.bytes()) {
		t.Fatalf("%v, not %v", b, m)
	}
	if err := Check(b); err != api.OK {
		t.Fatalf("%v is not right: %d", m, err)
	}
	var want []numbered
	for k, e := range m {
		if e.Name == "" {
			continue
		}
		want = append(want, numbered{k, e})
		if got, inode := Find(b, e.Name); got != k || inode != e.Inode {
			t.Fatalf("%q is found at %d, %d", e.Name, got, inode)
		}
	}
	if got := told(All(b), -1); !slices.Equal(got, want) {
		t.Fatalf("%v is told as %v", m, got)
	}
}

func TestPlays(t *testing.T) { // P8.4, P8.5, P8.6, P8.7
	names := append(slices.Clone(someNames), "b", "c", "d", "e", "f", "g", "h")
	for seed := range 40 {
		r := rand.New(rand.NewSource(int64(seed)))
		var m model
		var b []byte
		for range 300 {
			name, inode := names[r.Intn(len(names))], someInodes[r.Intn(len(someInodes))]
			at := slices.IndexFunc(m, func(e api.Entry) bool { return e.Name == name })
			before := b
			kept := bytes.Clone(b)
			var next []byte
			var err api.Errno
			want := api.OK
			switch r.Intn(3) {
			case 0:
				next, err = Add(b, api.Entry{Inode: inode, Name: name})
				if at >= 0 {
					want = api.ErrExist
					break
				}
				// What is added and removed again leaves the bytes as they were.
				if again, e := Remove(next, name); e != api.OK || !bytes.Equal(again, kept) {
					t.Fatalf("%q added to %v and removed: %v, %d", name, m, again, e)
				}
				m = m.add(api.Entry{Inode: inode, Name: name})
			case 1:
				next, err = Remove(b, name)
				if at < 0 {
					want = api.ErrNoEntry
					break
				}
				m = m.remove(at)
				if k, _ := Find(next, name); k != -1 {
					t.Fatalf("%q was removed, and is found", name)
				}
			case 2:
				next, err = Turn(b, name, inode)
				if at < 0 {
					want = api.ErrNoEntry
					break
				}
				m[at].Inode = inode
			}
			same(t, before, kept)
			if err != want {
				t.Fatalf("the seed %d: %d, not %d", seed, err, want)
			}
			if err == api.OK {
				b = next
			} else if len(next) != 0 {
				t.Fatalf("%v with the error %d", next, err)
			}
			m.agree(t, b)
		}
	}
}

func TestAnyBytes(t *testing.T) { // P8.1, P8.2, P8.3, P1
	r := rand.New(rand.NewSource(7))
	pieces := append(noSlots(), gap(), gap(), of(3, "a"), of(4, "b"), of(5, "a"), of(6, long), of(7, "c"), of(8, "d"))
	right := 0
	for range 20000 {
		var b []byte
		for range r.Intn(5) {
			from := len(pieces) - 8
			if r.Intn(8) == 0 {
				from = 0
			}
			b = append(b, pieces[from+r.Intn(len(pieces)-from)]...)
		}
		if r.Intn(10) == 0 {
			b = append(b, pieces[r.Intn(len(pieces))][:r.Intn(16)]...)
		}
		var want []numbered
		room, isRight := -1, len(b)%16 == 0
		names := map[string]bool{}
		for k := range len(b) / 16 {
			e, there, none := asTold(b[16*k : 16*k+16])
			if there {
				want = append(want, numbered{k, e})
			}
			if !there && !none && room < 0 {
				room = k
			}
			last := k == len(b)/16-1
			if none || there && names[e.Name] || last && !there {
				isRight = false
			}
			names[e.Name] = true
		}
		if room < 0 {
			room = len(b) / 16
		}
		if got := told(All(b), -1); !slices.Equal(got, want) {
			t.Fatalf("All of %v: %v", b, got)
		}
		if got := Room(b); got != room {
			t.Fatalf("Room of %v: %d", b, got)
		}
		if err := Check(b); (err == api.OK) != isRight || err != api.OK && err != api.ErrEntry {
			t.Fatalf("Check of %v: %d", b, err)
		}
		if isRight {
			right++
		}
		for _, name := range []string{"a", "b", "c", long} {
			k, inode := -1, 0
			if i := slices.IndexFunc(want, func(n numbered) bool { return n.e.Name == name }); i >= 0 {
				k, inode = want[i].k, want[i].e.Inode
			}
			if got, in := Find(b, name); got != k || in != inode {
				t.Fatalf("Find of %q in %v: %d, %d", name, b, got, in)
			}
		}
	}
	if right < 1000 || right > 19000 {
		t.Error("right ones:", right)
	}
}
