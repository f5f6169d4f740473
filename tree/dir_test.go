package tree

import (
	"bytes"
	"slices"
	"strconv"
	"strings"
	"testing"

	"cuneiform/api"
	"cuneiform/inode"
	"cuneiform/node"
	"cuneiform/room"
)

// noNames are texts that are no names.
var noNames = []string{"", ".", "..", "/", "a/b", "/a", "a/", "\x00", "a\x00", "abcdefghijklmn", strings.Repeat("x", 300)}

// name is a name of its own for each number.
func name(n int) string {
	return "n" + strconv.Itoa(n)
}

// writes writes bytes into an inode's file.
func writes(t *testing.T, x *Tree, n int, off int64, b []byte) {
	t.Helper()
	i := inodeOf(t, x, n)
	for done := 0; done < len(b); done += api.MaxIO {
		var e api.Errno
		i, e = node.Write(x.Pool(), i, off+int64(done), b[done:min(len(b), done+api.MaxIO)])
		if e != api.OK {
			t.Fatal("Write:", e)
		}
	}
	is(t, "Set", x.Set(n, i), api.OK)
}

// cuts makes an inode's file as long as that.
func cuts(t *testing.T, x *Tree, n int, to int64) {
	t.Helper()
	i, e := node.Truncate(x.Pool(), inodeOf(t, x, n), to)
	is(t, "Truncate", e, api.OK)
	is(t, "Set", x.Set(n, i), api.OK)
}

// planted is a tree with the root, a file 2, and a directory 3, which is the root's d.
func planted(t *testing.T, size, pages int) *Tree {
	t.Helper()
	_, x := fresh(t, size, 3, pages)
	makes(t, x, api.IDir, 1)
	makes(t, x, api.IFile, 2)
	makes(t, x, api.IDir, 3)
	adds(t, x, 1, 3, "d")
	return x
}

func TestDrop(t *testing.T) { // P13.1, P13.5
	for _, size := range sizes {
		x := planted(t, size, 200)
		k, all := size/2, 2*size+9
		writes(t, x, 2, 5, bytes.Repeat([]byte{7}, all))
		writes(t, x, 2, int64(size*(6+k)+3), []byte{9})
		for n := range 5 * size / 16 {
			adds(t, x, 3, 2, name(n))
		}
		taken := takesOf(x, inodeOf(t, x, 2)) + takesOf(x, inodeOf(t, x, 3)) + 1
		if x.Pool().Room() != 200-taken || taken != 3+3+5+1 {
			t.Error("taken:", taken, x.Pool().Room())
		}
		is(t, "Drop", x.Drop(2), api.OK)
		if i := inodeOf(t, x, 2); i != (api.Inode{}) || x.Pool().Room() != 200-6 || x.Used() != 2 {
			t.Error("behind Drop:", i, x.Pool().Room(), x.Used())
		}
		holds(t, x, 1, api.Entry{Inode: 3, Name: "d"})
		// A directory, too, with all its entries.
		is(t, "Drop", x.Drop(3), api.OK)
		if i := inodeOf(t, x, 3); i != (api.Inode{}) || x.Pool().Room() != 199 || x.Used() != 1 {
			t.Error("behind Drop:", i, x.Pool().Room(), x.Used())
		}
		// One that is free is free.
		is(t, "Drop", x.Drop(3), api.OK)
		is(t, "Drop", x.Drop(4), api.OK)
		is(t, "Drop", x.Drop(1), api.OK)
		if x.Pool().Room() != 200 || x.Used() != 0 {
			t.Error("behind all:", x.Pool().Room(), x.Used())
		}
	}
}

func TestBytes(t *testing.T) { // P13.2
	for _, size := range sizes {
		x := planted(t, size, 700)
		is(t, "Remove", x.Remove(1, "d"), api.OK)
		holds(t, x, 1)
		for _, n := range []int{1, 15, 16, 17, 63, 64, 65, 1023, 1024, 1025, 2047, 2048, 2049, 5000} {
			cuts(t, x, 3, 0)
			b := make([]byte, n)
			for k := range b {
				b[k] = byte(k%251 + 1)
			}
			writes(t, x, 3, 0, b)
			if got, e := x.Bytes(3); e != api.OK || !bytes.Equal(got, b) {
				t.Errorf("Bytes of %d: %d, %d", n, len(got), e)
			}
		}
		cuts(t, x, 3, 6000)
		b, e := x.Bytes(3)
		if e != api.OK || len(b) != 6000 || b[4999] == 0 || bytes.ContainsFunc(b[5000:], func(r rune) bool { return r != 0 }) {
			t.Error("Bytes of 6000:", len(b), e)
		}
		for _, n := range []int{2, 4} {
			if b, e := x.Bytes(n); e != api.ErrNotDir || len(b) != 0 {
				t.Errorf("Bytes(%d): %v, %d", n, b, e)
			}
		}
		// What is answered is the caller's.
		b, _ = x.Bytes(3)
		clear(b[:cap(b)])
		if b, _ = x.Bytes(3); b[0] != 1 {
			t.Error("Bytes behind a change of what was answered:", b[0])
		}
	}
}

func TestTheGreatestDirectoryThatCanBe(t *testing.T) { // P13.2
	_, x := fresh(t, 512, 2, 20)
	makes(t, x, api.IDir, 1)
	most := inode.Most(512)
	cuts(t, x, 1, most)
	b, e := x.Bytes(1)
	if e != api.OK || int64(len(b)) != most {
		t.Error("Bytes:", len(b), e)
	}
}

func TestFind(t *testing.T) { // P13.2
	x := planted(t, 64, 40)
	adds(t, x, 3, 2, "a", "b", "abcdefghijklm", " ", "A", "\xff")
	adds(t, x, 3, 1, "up")
	adds(t, x, 3, 6, "free") // that there is such an inode is asked, not that it is not free
	before := stateOf(x)
	for name, want := range map[string]int{"a": 2, "b": 2, "abcdefghijklm": 2, " ": 2, "A": 2, "\xff": 2, "up": 1, "free": 6} {
		if n, e := x.Find(3, name); n != want || e != api.OK {
			t.Errorf("Find of %q: %d, %d, not %d", name, n, e, want)
		}
	}
	for _, name := range append([]string{"c", "aa", "abcdefghijkl", "B", "d", "\x00\x00"}, noNames...) {
		if n, e := x.Find(3, name); n != 0 || e != api.ErrNoEntry {
			t.Errorf("Find of %q: %d, %d", name, n, e)
		}
		for _, dir := range []int{2, 4} {
			if n, e := x.Find(dir, name); n != 0 || e != api.ErrNotDir {
				t.Errorf("Find of %q in %d: %d, %d", name, dir, n, e)
			}
		}
	}
	before.stays(t, x)
}

func TestWalk(t *testing.T) { // P13.2
	_, x := fresh(t, 128, 5, 60)
	for _, names := range [][]string{nil, {}} {
		if n, e := x.Walk(names); n != 1 || e != api.OK {
			t.Error("Walk of no names, where the root is no directory:", n, e)
		}
	}
	if n, e := x.Walk([]string{"a"}); n != 0 || e != api.ErrNotDir {
		t.Error("Walk, where the root is no directory:", n, e)
	}
	makes(t, x, api.IDir, 1)
	for n := 2; n <= 20; n++ {
		makes(t, x, api.IDir, n)
		adds(t, x, n-1, n, "x", "d")
		adds(t, x, n, n-1, "up")
	}
	makes(t, x, api.IFile, 21)
	adds(t, x, 20, 21, "f")
	adds(t, x, 20, 23, "free")
	before := stateOf(x)
	down := slices.Repeat([]string{"d"}, 19)
	for n := range 20 {
		walks(t, x, n+1, api.OK, down[:n]...)
		if n < 19 {
			walks(t, x, n+1, api.OK, append(slices.Clone(down[:n]), "d", "up")...)
		}
		walks(t, x, 0, api.ErrNoEntry, append(slices.Clone(down[:n]), "e", "d", "/")...)
		walks(t, x, 0, api.ErrNoEntry, append(slices.Clone(down[:n]), "")...)
	}
	walks(t, x, 21, api.OK, append(slices.Clone(down), "f")...)
	walks(t, x, 23, api.OK, append(slices.Clone(down), "free")...)
	for _, last := range []string{"f", "free"} {
		for _, behind := range append([]string{"d", "f"}, noNames...) {
			walks(t, x, 0, api.ErrNotDir, append(slices.Clone(down), last, behind, "d")...)
		}
	}
	for _, name := range append([]string{"X", "dd"}, noNames...) {
		walks(t, x, 0, api.ErrNoEntry, name)
		walks(t, x, 0, api.ErrNoEntry, "d", name, "f")
	}
	before.stays(t, x)
}

// walks fails the test, if a row of names leads elsewhere.
func walks(t *testing.T, x *Tree, want int, wants api.Errno, names ...string) {
	t.Helper()
	handed := slices.Clone(names)
	if n, e := x.Walk(handed); n != want || e != wants {
		t.Errorf("Walk of %q: %d, %d, not %d, %d", names, n, e, want, wants)
	}
	if !slices.Equal(handed, names) {
		t.Error("Walk changed its names")
	}
}

func TestAdd(t *testing.T) { // P13.3, P13.5, P13.7
	for _, size := range sizes {
		x := planted(t, size, 40)
		var l []api.Entry
		for n := range 40 {
			l = append(l, api.Entry{Inode: n%6 + 1, Name: name(n)})
			adds(t, x, 3, n%6+1, name(n))
			holds(t, x, 3, l...)
		}
		// The first empty slot is taken first.
		for _, n := range []int{31, 7, 0, 8} {
			removes(t, x, 3, name(n))
			l[n] = api.Entry{}
			holds(t, x, 3, l...)
		}
		for k, n := range []int{0, 7, 8, 31, 40} {
			l = append(l, api.Entry{})
			l[n] = api.Entry{Inode: 2, Name: "again" + strconv.Itoa(k)}
			if n < 40 {
				l = l[:40]
			}
			adds(t, x, 3, 2, l[n].Name)
			holds(t, x, 3, l...)
		}
		holds(t, x, 1, api.Entry{Inode: 3, Name: "d"})
		if i := inodeOf(t, x, 2); i != (api.Inode{Kind: api.IFile}) || x.Used() != 3 {
			t.Error("what was named changed:", i, x.Used())
		}
	}
}

func TestAddOfWhatMayNotBe(t *testing.T) { // P13.3, P13.6, P1
	for _, size := range sizes {
		x := planted(t, size, 40)
		adds(t, x, 3, 2, "a")
		all := 3 * inode.PerPage(size)
		for k := range size/16 - 1 { // the page is full then
			adds(t, x, 3, 2, name(k))
		}
		for range 2 {
			before := stateOf(x)
			numbers := append([]int{all + 1, all + 2}, nowhere...)
			for _, n := range numbers {
				for _, name := range append([]string{"a", "b"}, noNames...) {
					is(t, "Add of "+strconv.Itoa(n), x.Add(3, name, n), api.ErrArg)
					is(t, "Add to a file", x.Add(2, name, n), api.ErrNotDir)
					is(t, "Add to a free one", x.Add(5, name, n), api.ErrNotDir)
				}
			}
			for _, name := range noNames {
				is(t, "Add of "+strconv.Quote(name), x.Add(3, name, 2), api.ErrName)
			}
			for _, n := range []int{1, 2, 3, all} {
				is(t, "Add of a", x.Add(3, "a", n), api.ErrExist)
			}
			before.stays(t, x)
			// All this is named ahead of that there is no space.
			filled(t, x, 0)
			before = stateOf(x)
			is(t, "Add", x.Add(3, "b", 2), api.ErrSpace)
			before.stays(t, x)
		}
	}
}

func TestAddWithoutSpace(t *testing.T) { // P13.3, P13.6, P13.7
	for _, size := range sizes {
		inPage, k := size/16, size/2
		for _, at := range []struct{ pages, more int }{
			{0, 1}, {1, 1}, {5, 1}, {6, 2}, {7, 1}, {6 + k - 1, 1}, {6 + k, 3}, {6 + k + 1, 1}, {6 + k + k, 2}, {6 + k + k + 1, 1},
		} {
			n := at.pages * inPage
			if n > 600 {
				continue // too long; the smaller pages have all that there is
			}
			x := planted(t, size, 250)
			var l []api.Entry
			for slot := range n {
				l = append(l, api.Entry{Inode: 2, Name: name(slot)})
			}
			writes(t, x, 3, 0, slots(l...))
			is(t, "Commit", x.Pool().Commit(make([]byte, size-8)), api.OK) // that what was not to be written would be dirty again
			taken := filled(t, x, at.more-1)
			before := stateOf(x)
			for range 2 {
				is(t, "Add", x.Add(3, "b", 2), api.ErrSpace)
			}
			before.stays(t, x)
			// What needs no more is added: the same in an empty slot.
			if n > 0 {
				removes(t, x, 3, name(n/2))
				adds(t, x, 3, 1, name(n/2))
				l[n/2].Inode = 1
				if n/2 != n-1 {
					is(t, "Add", x.Add(3, "b", 2), api.ErrSpace)
				}
			}
			is(t, "Free", x.Pool().Free(taken[0]), api.OK)
			l = append(l, api.Entry{Inode: 2, Name: "b"})
			adds(t, x, 3, 2, "b")
			holds(t, x, 3, l...)
			if x.Pool().Room() != 0 {
				t.Error("Room:", x.Pool().Room())
			}
			adds(t, x, 3, 2, "c")
			holds(t, x, 3, append(l, api.Entry{Inode: 2, Name: "c"})...)
		}
	}
}

func TestTheGreatestDirectory(t *testing.T) { // P13.2, P13.3, P13.7
	_, x := fresh(t, 64, 2, 1200)
	makes(t, x, api.IDir, 1)
	makes(t, x, api.IFile, 2)
	var l []api.Entry
	for n := range 1062*4 - 1 {
		l = append(l, api.Entry{Inode: 2, Name: name(n)})
	}
	writes(t, x, 1, 0, slots(l...))
	l = append(l, api.Entry{Inode: 1, Name: "last"})
	adds(t, x, 1, 1, "last")
	if takes := takesOf(x, inodeOf(t, x, 1)); takes != 1062+34 {
		t.Error("it takes", takes)
	}
	before := stateOf(x)
	is(t, "Add to the greatest directory", x.Add(1, "more", 2), api.ErrSpace)
	is(t, "Add to the greatest directory", x.Add(1, "last", 2), api.ErrExist)
	before.stays(t, x)
	is(t, "Turn", x.Turn(1, "last", 2), api.OK)
	removes(t, x, 1, name(4000))
	adds(t, x, 1, 1, "more")
	l[4000], l[len(l)-1].Inode = api.Entry{Inode: 1, Name: "more"}, 2
	if b, e := x.Bytes(1); e != api.OK || !bytes.Equal(b, slots(l...)) {
		t.Error("Bytes:", len(b), e)
	}
	if n := 1200 - x.Pool().Room(); n != 1062+34 {
		t.Error("it takes", n)
	}
	is(t, "Drop", x.Drop(1), api.OK)
	if x.Pool().Room() != 1200 {
		t.Error("Room behind Drop:", x.Pool().Room())
	}
}

func TestRemove(t *testing.T) { // P13.3, P13.5, P13.7
	for _, size := range sizes {
		x := planted(t, size, 60)
		const n = 50
		for _, order := range [][]int{upTo(n), downFrom(n), mixed(n)} {
			var l []api.Entry
			for k := range n {
				l = append(l, api.Entry{Inode: 1 + k%3, Name: name(k)})
				adds(t, x, 3, 1+k%3, name(k))
			}
			for _, k := range order {
				removes(t, x, 3, name(k))
				l[k] = api.Entry{}
				for len(l) > 0 && l[len(l)-1].Name == "" {
					l = l[:len(l)-1]
				}
				holds(t, x, 3, l...)
				if m, e := x.Find(3, name(k)); m != 0 || e != api.ErrNoEntry {
					t.Errorf("Find of what was removed: %d, %d", m, e)
				}
				before := stateOf(x)
				is(t, "Remove once more", x.Remove(3, name(k)), api.ErrNoEntry)
				before.stays(t, x)
			}
			if x.Pool().Room() != 59 {
				t.Error("Room behind all:", x.Pool().Room())
			}
		}
		if x.Used() != 3 {
			t.Error("Used:", x.Used())
		}
		holds(t, x, 1, api.Entry{Inode: 3, Name: "d"})
	}
}

func upTo(n int) []int {
	var l []int
	for k := range n {
		l = append(l, k)
	}
	return l
}

func downFrom(n int) []int {
	l := upTo(n)
	slices.Reverse(l)
	return l
}

// mixed are the numbers below n, which 7 does not divide, each seven behind the one ahead of it.
func mixed(n int) []int {
	var l []int
	for k := range n {
		l = append(l, k*7%n)
	}
	return l
}

func TestRemoveOfWhatIsNotThere(t *testing.T) { // P13.3, P13.6, P1
	x := planted(t, 64, 40)
	adds(t, x, 3, 2, "a", "b")
	filled(t, x, 0)
	before := stateOf(x)
	for _, name := range append([]string{"c", "aa", "A", "d"}, noNames...) {
		is(t, "Remove", x.Remove(3, name), api.ErrNoEntry)
		is(t, "Turn", x.Turn(3, name, 2), api.ErrNoEntry)
		for _, n := range nowhere {
			is(t, "Turn", x.Turn(3, name, n), api.ErrNoEntry)
			is(t, "Turn", x.Turn(2, name, n), api.ErrNotDir)
		}
		for _, dir := range []int{2, 4} {
			is(t, "Remove", x.Remove(dir, name), api.ErrNotDir)
			is(t, "Turn", x.Turn(dir, name, 2), api.ErrNotDir)
		}
	}
	before.stays(t, x)
	// Neither needs space.
	is(t, "Turn", x.Turn(3, "b", 1), api.OK)
	is(t, "Remove", x.Remove(3, "a"), api.OK)
	holds(t, x, 3, api.Entry{}, api.Entry{Inode: 1, Name: "b"})
}

func TestTurn(t *testing.T) { // P13.3, P13.5, P13.6
	for _, size := range sizes {
		x := planted(t, size, 40)
		all := 3 * inode.PerPage(size)
		var l []api.Entry
		for k := range 30 {
			l = append(l, api.Entry{Inode: 2, Name: name(k)})
		}
		for _, e := range l {
			adds(t, x, 3, e.Inode, e.Name)
		}
		for _, k := range []int{0, 3, 4, 15, 29} {
			for _, n := range []int{1, all, 3, 2, 6} {
				is(t, "Turn", x.Turn(3, name(k), n), api.OK)
				l[k].Inode = n
				holds(t, x, 3, l...)
			}
			before := stateOf(x)
			for _, n := range append([]int{all + 1}, nowhere...) {
				is(t, "Turn to "+strconv.Itoa(n), x.Turn(3, name(k), n), api.ErrArg)
			}
			before.stays(t, x)
		}
		if x.Used() != 3 {
			t.Error("Used:", x.Used())
		}
	}
}

func TestEntries(t *testing.T) { // P13.4
	x := planted(t, 64, 40)
	var l []api.Entry
	for k := range 20 {
		l = append(l, api.Entry{Inode: 1 + k%4, Name: name(19 - k)})
		adds(t, x, 3, 1+k%4, name(19-k))
	}
	removes(t, x, 3, name(19), name(12), name(11))
	l[0], l[7], l[8] = api.Entry{}, api.Entry{}, api.Entry{}
	holds(t, x, 3, l...)
	all := x.Entries(3)
	for n := range 19 {
		seen := 0
		for k, e := range all {
			if seen == n {
				break
			}
			if l[k] != e {
				t.Errorf("Entries: %d, %v", k, e)
			}
			seen++
		}
		if seen != min(n, 17) {
			t.Errorf("of %d asked for there were %d", n, seen)
		}
	}
	// Who is told of them may remove them, and they are told again.
	for range 2 {
		seen := 0
		for _, e := range all {
			x.Remove(3, e.Name)
			seen++
		}
		if seen != 17 {
			t.Error("told:", seen)
		}
	}
	holds(t, x, 3)
	for _, n := range append([]int{2, 3, 4, 5, 6, 7}, nowhere...) {
		for k, e := range x.Entries(n) {
			t.Errorf("Entries(%d): %d, %v", n, k, e)
		}
	}
}

func TestTakes(t *testing.T) { // P13.7
	_, x := fresh(t, 64, 2, 100)
	makes(t, x, api.IDir, 1)
	makes(t, x, api.IFile, 2)
	for n := range 4*(6+32+32+1) + 1 {
		if takes, _ := room.Dir(64, n); 100-x.Pool().Room() != takes || takesOf(x, inodeOf(t, x, 1)) != takes {
			t.Fatalf("%d slots take %d, not %d", n, 100-x.Pool().Room(), takes)
		}
		adds(t, x, 1, 2, name(n))
	}
	for n := 4 * (6 + 32 + 32 + 1); n >= 0; n-- {
		removes(t, x, 1, name(n))
		if takes, _ := room.Dir(64, n); 100-x.Pool().Room() != takes || takesOf(x, inodeOf(t, x, 1)) != takes {
			t.Fatalf("%d slots take %d, not %d", n, 100-x.Pool().Room(), takes)
		}
	}
}

func TestDirectoriesThatAreNotRight(t *testing.T) { // P13.2 to P13.4, P13.6
	a, b := api.Entry{Inode: 2, Name: "a"}, api.Entry{Inode: 1, Name: "b"}
	for _, bytes := range [][]byte{
		slots(a, b)[:31], slots(a, api.Entry{}), append(slots(a), 1), slots(a, b, a), append(slots(a), bytes.Repeat([]byte{255}, 16)...), append(slots(a), bytes.Repeat([]byte{9}, 100)...),
	} {
		x := planted(t, 64, 40)
		writes(t, x, 3, 0, bytes)
		before := stateOf(x)
		if n, e := x.Find(3, "a"); n != 2 || e != api.OK {
			t.Error("Find:", n, e)
		}
		if n, e := x.Walk([]string{"d", "a"}); n != 2 || e != api.OK {
			t.Error("Walk:", n, e)
		}
		first := true
		for k, e := range x.Entries(3) {
			if first && (k != 0 || e != a) {
				t.Error("Entries:", k, e)
			}
			first = false
		}
		if first {
			t.Error("Entries: none")
		}
		is(t, "Add", x.Add(3, "c", 2), api.ErrEntry)
		is(t, "Remove", x.Remove(3, "a"), api.ErrEntry)
		is(t, "Turn", x.Turn(3, "a", 1), api.ErrEntry)
		// What the chapter names comes first.
		is(t, "Add", x.Add(3, "c", 0), api.ErrArg)
		is(t, "Add", x.Add(3, "/", 2), api.ErrName)
		is(t, "Add", x.Add(3, "a", 2), api.ErrExist)
		is(t, "Remove", x.Remove(3, "c"), api.ErrNoEntry)
		is(t, "Turn", x.Turn(3, "c", 0), api.ErrNoEntry)
		is(t, "Turn", x.Turn(3, "a", 0), api.ErrArg)
		before.stays(t, x)
		// All else goes on.
		adds(t, x, 1, 3, "e")
		is(t, "Drop", x.Drop(3), api.OK)
		if x.Pool().Room() != 39 {
			t.Error("Room:", x.Pool().Room())
		}
	}
}

func TestWhatIsDown(t *testing.T) { // P13.1 to P13.4, P13.6
	for _, commit := range []bool{false, true} {
		c, x := fresh(t, 64, 2, 40)
		makes(t, x, api.IDir, 1)
		makes(t, x, api.IFile, 2)
		adds(t, x, 1, 2, "a", "b", "c", "d", "e")
		if commit {
			is(t, "Commit", x.Pool().Commit(make([]byte, 56)), api.OK)
		}
		dirty, free := x.Pool().Dirty(), x.Pool().Room()
		c.Lose()
		for n := 1; n <= 4; n++ {
			if i, e := x.Inode(n); e != api.ErrDown || i != (api.Inode{}) {
				t.Error("Inode:", i, e)
			}
			is(t, "Set", x.Set(n, some(n)), api.ErrDown)
			is(t, "Set", x.Set(n, api.Inode{Kind: 3}), api.ErrInode)
			is(t, "Drop", x.Drop(n), api.ErrDown)
			if b, e := x.Bytes(n); e != api.ErrDown || len(b) != 0 {
				t.Error("Bytes:", b, e)
			}
			for _, name := range []string{"a", "f", "/"} {
				if m, e := x.Find(n, name); e != api.ErrDown || m != 0 {
					t.Error("Find:", m, e)
				}
				is(t, "Add", x.Add(n, name, 9), api.ErrDown)
				is(t, "Remove", x.Remove(n, name), api.ErrDown)
				is(t, "Turn", x.Turn(n, name, 9), api.ErrDown)
			}
			for k, e := range x.Entries(n) {
				t.Error("Entries:", k, e)
			}
		}
		if n, e := x.Make(api.IFile); e != api.ErrDown || n != 0 {
			t.Error("Make:", n, e)
		}
		if n, e := x.Make(3); e != api.ErrArg || n != 0 {
			t.Error("Make:", n, e)
		}
		if n, e := x.Walk([]string{"a"}); e != api.ErrDown || n != 0 {
			t.Error("Walk:", n, e)
		}
		for _, n := range nowhere {
			if _, e := x.Inode(n); e != api.ErrArg {
				t.Error("Inode:", e)
			}
			is(t, "Set", x.Set(n, some(1)), api.ErrArg)
			is(t, "Add", x.Add(n, "a", 1), api.ErrArg)
		}
		x.Used()
		if x.Pool().Dirty() != dirty || x.Pool().Room() != free {
			t.Error("a refused call changed the pool:", x.Pool().Dirty(), x.Pool().Room())
		}
	}
}

func TestWhatIsCommitted(t *testing.T) { // P13.5
	for _, size := range sizes {
		c, x := fresh(t, size, 3, 60)
		lay := x.Pool().Layout()
		makes(t, x, api.IDir, 1)
		makes(t, x, api.IDir, 2)
		makes(t, x, api.IFile, 3)
		adds(t, x, 1, 2, "d")
		var l []api.Entry
		for n := range 40 {
			l = append(l, api.Entry{Inode: 3, Name: name(n)})
			adds(t, x, 2, 3, name(n))
		}
		is(t, "Commit", x.Pool().Commit(make([]byte, size-8)), api.OK)
		used := slices.Collect(x.Pool().Used())
		holds(t, x, 2, l...)
		// What is not committed is gone with the power.
		removes(t, x, 2, name(0), name(39))
		is(t, "Drop", x.Drop(3), api.OK)
		makes(t, x, api.IDir, 3)
		c.Lose()
		c.Start()
		x = again(t, c, lay, used)
		holds(t, x, 1, api.Entry{Inode: 2, Name: "d"})
		holds(t, x, 2, l...)
		if i := inodeOf(t, x, 3); i != (api.Inode{Kind: api.IFile}) || x.Used() != 3 {
			t.Error("behind the loss:", i, x.Used())
		}
		removes(t, x, 2, name(39))
		makes(t, x, api.IFile, 4)
		holds(t, x, 2, l[:39]...)
	}
}

func TestATreeThatWasNotOpened(t *testing.T) { // P1
	for _, x := range []*Tree{{}, {p: nil}} {
		for _, n := range append([]int{1, 2, 3}, nowhere...) {
			x.Inode(n)
			x.Set(n, some(3))
			x.Make(n)
			x.Drop(n)
			x.Bytes(n)
			x.Find(n, "a")
			x.Add(n, "a", n)
			x.Remove(n, "a")
			x.Turn(n, "a", n)
			for k, e := range x.Entries(n) {
				t.Error("Entries:", k, e)
			}
		}
		if n, e := x.Walk([]string{"a"}); n != 0 || e == api.OK {
			t.Error("Walk:", n, e)
		}
		if x.Used() != 0 || x.Pool() != nil {
			t.Error("Used, Pool:", x.Used(), x.Pool())
		}
	}
}
