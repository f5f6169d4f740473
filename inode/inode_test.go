package inode

import (
	"bytes"
	"encoding/binary"
	"iter"
	"math"
	"math/rand"
	"slices"
	"testing"

	"cuneiform/api"
)

var sizes = []int{64, 128, 256, 512}

// noSizes are numbers of bytes that no page has.
func noSizes() []int {
	l := []int{math.MinInt, -64, -1, math.MaxInt, 1 << 32, 1<<32 + 64, 1 << 20}
	for n := range 1100 {
		if !slices.Contains(sizes, n) {
			l = append(l, n)
		}
	}
	return l
}

// some is an inode all of whose numbers differ.
var some = api.Inode{Kind: api.IFile, Links: 0x0102, Size: 0x03040506, Direct: [6]int{0x0708, 0x090A, 0x0B0C, 0x0D0E, 0x0F10, 0x1112}, Single: 0x1314, Double: 0x1516}

// with is some with something changed.
func with(change func(i *api.Inode)) api.Inode {
	i := some
	change(&i)
	return i
}

// rights are inodes that are right, those at the edges among them.
func rights() []api.Inode {
	l := []api.Inode{{}, {Kind: api.IFile}, {Kind: api.IDir}, some}
	for _, kind := range []int{api.IFile, api.IDir} {
		for _, links := range []int{0, 1, 255, 256, 999, 1000} {
			l = append(l, with(func(i *api.Inode) { i.Kind, i.Links = kind, links }))
		}
		for _, size := range []int64{0, 1, 255, 256, 1 << 16, 1 << 24, 1<<31 - 1} {
			l = append(l, with(func(i *api.Inode) { i.Kind, i.Size = kind, size }))
		}
		for _, p := range []int{0, 1, 255, 256, 8191} {
			for k := range 8 {
				l = append(l, with(func(i *api.Inode) { i.Kind = kind; *place(i, k) = p }))
			}
		}
	}
	return l
}

// wrongs are inodes of which each is not right by one number alone.
func wrongs() []api.Inode {
	var l []api.Inode
	for _, kind := range []int{0, 3, 4, 255, 256, 257, 258, -1, 1<<32 + 1, math.MaxInt, math.MinInt} {
		l = append(l, with(func(i *api.Inode) { i.Kind = kind }))
	}
	for _, kind := range []int{3, -1, 256, 257} {
		l = append(l, api.Inode{Kind: kind})
	}
	for _, links := range []int{-1, 1001, 1 << 16, 1<<16 + 1, math.MaxInt, math.MinInt} {
		l = append(l, with(func(i *api.Inode) { i.Links = links }), with(func(i *api.Inode) { i.Kind, i.Links = api.IDir, links }))
	}
	for _, size := range []int64{-1, 1 << 31, 1 << 32, 1<<32 + 1, math.MaxInt64, math.MinInt64} {
		l = append(l, with(func(i *api.Inode) { i.Size = size }), with(func(i *api.Inode) { i.Kind, i.Size = api.IDir, size }))
	}
	for k := range 8 {
		for _, p := range []int{-1, 8192, 1 << 16, 1<<16 + 1, math.MaxInt, math.MinInt} {
			l = append(l, with(func(i *api.Inode) { *place(i, k) = p }), with(func(i *api.Inode) { i.Kind = api.IDir; *place(i, k) = p }))
		}
		i := api.Inode{}
		*place(&i, k) = 1
		l = append(l, i)
	}
	return append(l, api.Inode{Links: 1}, api.Inode{Size: 1}, api.Inode{Links: -1}, api.Inode{Size: -1})
}

// place is where an inode's pointer stands: the Direct ones, Single, Double.
func place(i *api.Inode, k int) *int {
	switch k {
	case 6:
		return &i.Single
	case 7:
		return &i.Double
	}
	return &i.Direct[k]
}

// asTold are an inode's bytes as the document tells them, also of one that is not right.
func asTold(i api.Inode) []byte {
	b := []byte{byte(i.Kind), 0}
	b = binary.LittleEndian.AppendUint16(b, uint16(i.Links))
	b = binary.LittleEndian.AppendUint32(b, uint32(i.Size))
	for k := range 8 {
		b = binary.LittleEndian.AppendUint16(b, uint16(*place(&i, k)))
	}
	return b
}

// parsed tells of 24 bytes which inode the document says they are, if they are a right one's.
func parsed(b []byte) (api.Inode, bool) {
	i := api.Inode{Kind: int(b[0]), Links: int(binary.LittleEndian.Uint16(b[2:])), Size: int64(binary.LittleEndian.Uint32(b[4:]))}
	right := b[1] == 0 && b[0] <= 2 && i.Links <= 1000 && i.Size < 1<<31
	for k := range 8 {
		*place(&i, k) = int(binary.LittleEndian.Uint16(b[8+2*k:]))
		right = right && *place(&i, k) < 8192
	}
	if b[0] == 0 {
		right = bytes.Equal(b, make([]byte, 24))
	}
	if !right {
		return api.Inode{}, false
	}
	return i, true
}

// same fails the test, if a call changed what it was handed.
func same(t *testing.T, got, want []byte) {
	t.Helper()
	if !bytes.Equal(got, want) {
		t.Fatalf("what was handed in was changed to %v", got)
	}
}

// fresh fails the test, if an answer shares memory with what was handed in. It spoils the answer.
func fresh(t *testing.T, answer, handed []byte) {
	t.Helper()
	kept := bytes.Clone(handed)
	answer = answer[:cap(answer)]
	for i := range answer {
		answer[i] ^= 255
	}
	same(t, handed, kept)
}

// row is n bytes.
func row(r *rand.Rand, n int) []byte {
	b := make([]byte, n)
	r.Read(b)
	return b
}

func TestRight(t *testing.T) { // P9.1
	for _, i := range rights() {
		if !Right(i) {
			t.Errorf("%v is not right", i)
		}
	}
	for _, i := range wrongs() {
		if Right(i) {
			t.Errorf("%v is right", i)
		}
	}
}

func TestWrite(t *testing.T) { // P9.1
	b, e := Write(some)
	want := []byte{1, 0, 2, 1, 6, 5, 4, 3, 8, 7, 0x0A, 9, 0x0C, 0x0B, 0x0E, 0x0D, 0x10, 0x0F, 0x12, 0x11, 0x14, 0x13, 0x16, 0x15}
	if e != api.OK || !bytes.Equal(b, want) {
		t.Errorf("Write: %v, %d", b, e)
	}
	for _, i := range rights() {
		if b, e := Write(i); e != api.OK || !bytes.Equal(b, asTold(i)) {
			t.Errorf("Write of %v: %v, %d", i, b, e)
		}
	}
	for _, i := range wrongs() {
		if b, e := Write(i); e != api.ErrInode || len(b) != 0 {
			t.Errorf("Write of %v: %v, %d", i, b, e)
		}
	}
}

func TestRead(t *testing.T) { // P9.1, P9.5
	for _, i := range rights() {
		b := asTold(i)
		got, e := Read(b)
		if e != api.OK || got != i {
			t.Errorf("Read of %v: %v, %d", i, got, e)
		}
		same(t, b, asTold(i))
	}
	for n := range 100 {
		for _, b := range [][]byte{make([]byte, n), bytes.Repeat([]byte{255}, n), slices.Repeat(asTold(some), 5)[:n]} {
			if got, e := Read(b); n != 24 && (e != api.ErrArg || got != (api.Inode{})) {
				t.Errorf("Read of %d bytes: %v, %d", n, got, e)
			}
		}
	}
	if _, e := Read(nil); e != api.ErrArg {
		t.Error("Read of nothing:", e)
	}
}

func TestReadOfEachByteAtEachPlace(t *testing.T) { // P9.1, P1
	right, wrong := 0, 0
	for _, i := range append(rights(), api.Inode{Kind: api.IDir, Size: 1 << 30, Direct: [6]int{8191, 8191}}) {
		whole := asTold(i)
		for at := range whole {
			for x := range 256 {
				b := bytes.Clone(whole)
				b[at] = byte(x)
				want, ok := parsed(b)
				got, e := Read(b)
				if got != want || ok != (e == api.OK) || !ok && e != api.ErrInode {
					t.Fatalf("Read of %v: %v, %d", b, got, e)
				}
				if !ok {
					wrong++
					continue
				}
				right++
				if again, e := Write(got); e != api.OK || !bytes.Equal(again, b) {
					t.Fatalf("%v was read, and is written as %v, %d", b, again, e)
				}
			}
		}
	}
	if right == 0 || wrong == 0 {
		t.Error("too few kinds:", right, wrong)
	}
}

func TestPerPage(t *testing.T) { // P9.1
	for k, want := range []int{2, 5, 10, 21} {
		if got := PerPage(sizes[k]); got != want {
			t.Errorf("PerPage of %d: %d, not %d", sizes[k], got, want)
		}
	}
	for _, n := range noSizes() {
		if got := PerPage(n); got != 0 {
			t.Errorf("PerPage of %d: %d", n, got)
		}
	}
}

// table is a table page with such inodes at random, and with something behind them, that no call is to touch.
func table(r *rand.Rand, size int) []byte {
	l := rights()
	var page []byte
	for range size / 24 {
		page = append(page, asTold(l[r.Intn(len(l))])...)
	}
	return append(page, row(r, size%24)...)
}

func TestGetAndPut(t *testing.T) { // P9.2, P9.5
	r := rand.New(rand.NewSource(1))
	for _, size := range sizes {
		for k := range size / 24 {
			for _, i := range rights() {
				page := table(r, size)
				kept := bytes.Clone(page)
				was, _ := parsed(page[24*k : 24*k+24])
				if got, e := Get(page, k); e != api.OK || got != was {
					t.Fatalf("Get of %d in %d bytes: %v, %d, not %v", k, size, got, e, was)
				}
				put, e := Put(page, k, i)
				want := slices.Concat(kept[:24*k], asTold(i), kept[24*k+24:])
				if e != api.OK || !bytes.Equal(put, want) {
					t.Fatalf("Put of %d in %d bytes: %v, %d, not %v", k, size, put, e, want)
				}
				if got, e := Get(put, k); e != api.OK || got != i {
					t.Fatalf("%v was put, %v is got, %d", i, got, e)
				}
				same(t, page, kept)
				fresh(t, put, page)
			}
		}
	}
}

func TestGetAndPutOfWhatIsNone(t *testing.T) { // P9.2, P1
	refused := func(page []byte, k int, want api.Errno) {
		t.Helper()
		kept := bytes.Clone(page)
		if got, e := Get(page, k); e != want || got != (api.Inode{}) {
			t.Errorf("Get of %d in %d bytes: %v, %d, not %d", k, len(page), got, e, want)
		}
		same(t, page, kept)
	}
	notPut := func(page []byte, k int, i api.Inode, want api.Errno) {
		t.Helper()
		kept := bytes.Clone(page)
		if got, e := Put(page, k, i); e != want || len(got) != 0 {
			t.Errorf("Put of %d in %d bytes: %v, %d, not %d", k, len(page), got, e, want)
		}
		same(t, page, kept)
	}
	for _, n := range noSizes() {
		if n < 0 || n > 2000 {
			continue
		}
		for _, page := range [][]byte{make([]byte, n), bytes.Repeat([]byte{255}, n)} {
			refused(page, 0, api.ErrArg)
			notPut(page, 0, some, api.ErrArg)
			notPut(page, 0, api.Inode{Links: 1}, api.ErrArg)
		}
	}
	refused(nil, 0, api.ErrArg)
	notPut(nil, 0, some, api.ErrArg)
	for _, size := range sizes {
		for _, x := range []byte{0, 255} {
			page := bytes.Repeat([]byte{x}, size)
			for _, k := range []int{-1, -2, size / 24, size/24 + 1, size, math.MaxInt, math.MinInt, 1 << 60, 1 << 61, -1 << 61} {
				refused(page, k, api.ErrArg)
				notPut(page, k, some, api.ErrArg)
				notPut(page, k, api.Inode{Links: 1}, api.ErrArg)
			}
			for k := range size / 24 {
				for _, i := range wrongs() {
					notPut(page, k, i, api.ErrInode)
				}
			}
		}
		for k := range size / 24 {
			refused(bytes.Repeat([]byte{255}, size), k, api.ErrInode)
			// What was there ahead of it plays no part in what is put.
			put, e := Put(bytes.Repeat([]byte{255}, size), k, some)
			want := bytes.Repeat([]byte{255}, size)
			copy(want[24*k:], asTold(some))
			if e != api.OK || !bytes.Equal(put, want) {
				t.Errorf("Put to what is none: %v, %d", put, e)
			}
		}
	}
}

func TestMost(t *testing.T) { // P9.3
	for k, want := range []int64{67968, (6 + 64 + 64*64) * 128, (6 + 128 + 128*128) * 256, (6 + 256 + 256*256) * 512} {
		if got := Most(sizes[k]); got != want {
			t.Errorf("Most of %d: %d, not %d", sizes[k], got, want)
		}
	}
	for _, n := range noSizes() {
		if got := Most(n); got != 0 {
			t.Errorf("Most of %d: %d", n, got)
		}
	}
}

// ways are the ways to all pages of a file, in order.
func ways(size int) []Way {
	k := size / 2
	var l []Way
	for n := range 6 {
		l = append(l, Way{0, n, 0})
	}
	for m := range k {
		l = append(l, Way{1, m, 0})
	}
	for first := range k {
		for second := range k {
			l = append(l, Way{2, first, second})
		}
	}
	return l
}

func TestTo(t *testing.T) { // P9.3, P9.6
	for _, c := range []struct {
		n    int
		want Way
	}{
		{5, Way{0, 5, 0}}, {6, Way{1, 0, 0}}, {37, Way{1, 31, 0}}, {38, Way{2, 0, 0}}, {69, Way{2, 0, 31}}, {70, Way{2, 1, 0}}, {1061, Way{2, 31, 31}},
	} {
		if got, e := To(64, c.n); e != api.OK || got != c.want {
			t.Errorf("To(64, %d): %v, %d", c.n, got, e)
		}
	}
	for _, size := range sizes {
		all := ways(size)
		seen := map[Way]int{}
		for n, want := range all {
			got, e := To(size, n)
			if e != api.OK || got != want {
				t.Fatalf("To(%d, %d): %v, %d, not %v", size, n, got, e, want)
			}
			if was, twice := seen[got]; twice {
				t.Fatalf("the pages %d and %d of the size %d have one way", was, n, size)
			}
			seen[got] = n
		}
		if int64(len(all))*int64(size) != Most(size) {
			t.Errorf("%d pages of %d bytes, and Most is %d", len(all), size, Most(size))
		}
		for _, n := range []int{-1, -6, len(all), len(all) + 1, 1 << 31, math.MaxInt, math.MinInt} {
			if got, e := To(size, n); e != api.ErrIndex || got != (Way{}) {
				t.Errorf("To(%d, %d): %v, %d", size, n, got, e)
			}
		}
	}
	for _, size := range noSizes() {
		for _, n := range []int{0, 6, 100, -1, math.MaxInt} {
			if got, e := To(size, n); e != api.ErrArg || got != (Way{}) {
				t.Errorf("To(%d, %d): %v, %d", size, n, got, e)
			}
		}
	}
}

// told are the pointers that are handed over, n of them at most.
func told(all iter.Seq2[int, int], n int) [][2]int {
	var l [][2]int
	for k, p := range all {
		l = append(l, [2]int{k, p})
		if len(l) == n {
			break
		}
	}
	return l
}

// pointing is a pointer page of random pointers, of which many are 0.
func pointing(r *rand.Rand, size int) []byte {
	var page []byte
	for range size / 2 {
		p := []int{0, 0, 1, 255, 256, 8191, r.Intn(8192)}[r.Intn(7)]
		page = binary.LittleEndian.AppendUint16(page, uint16(p))
	}
	return page
}

func TestPointer(t *testing.T) { // P9.4
	for _, size := range sizes {
		for x := range 1 << 16 {
			k := x % (size / 2)
			page := bytes.Repeat([]byte{255}, size)
			binary.LittleEndian.PutUint16(page[2*k:], uint16(x))
			want, we := x, api.OK
			if x >= 8192 {
				want, we = 0, api.ErrIndex
			}
			if got, e := Pointer(page, k); got != want || e != we {
				t.Fatalf("Pointer of %d in %d bytes: %d, %d, not %d, %d", k, size, got, e, want, we)
			}
		}
	}
}

func TestPoint(t *testing.T) { // P9.4, P9.7
	r := rand.New(rand.NewSource(2))
	for _, size := range sizes {
		for k := range size / 2 {
			for _, to := range []int{0, 1, 255, 256, 8190, 8191, r.Intn(8192)} {
				page := pointing(r, size)
				kept := bytes.Clone(page)
				got, e := Point(page, k, to)
				want := slices.Concat(kept[:2*k], []byte{byte(to % 256), byte(to / 256)}, kept[2*k+2:])
				if e != api.OK || !bytes.Equal(got, want) {
					t.Fatalf("Point of %d to %d: %v, %d, not %v", k, to, got, e, want)
				}
				if p, e := Pointer(got, k); e != api.OK || p != to {
					t.Fatalf("%d points to %d, and %d, %d is told", k, to, p, e)
				}
				same(t, page, kept)
				fresh(t, got, page)
			}
		}
		// What was there ahead of it plays no part.
		if got, e := Point(bytes.Repeat([]byte{255}, size), 1, 2); e != api.OK || !bytes.Equal(got[:6], []byte{255, 255, 2, 0, 255, 255}) {
			t.Errorf("Point in what is none: %v, %d", got, e)
		}
	}
}

func TestPointersOfWhatIsNone(t *testing.T) { // P9.4, P1
	refused := func(page []byte, k, to int) {
		t.Helper()
		kept := bytes.Clone(page)
		if got, e := Point(page, k, to); e != api.ErrArg || len(got) != 0 {
			t.Errorf("Point of %d in %d bytes to %d: %v, %d", k, len(page), to, got, e)
		}
		same(t, page, kept)
	}
	places := []int{-1, math.MaxInt, math.MinInt, 1 << 62, -1 << 62}
	for _, n := range noSizes() {
		if n < 0 || n > 2000 {
			continue
		}
		page := bytes.Repeat([]byte{1}, n)
		for _, k := range append(places, 0, n/2-1, n/2) {
			if got, e := Pointer(page, k); e != api.ErrArg || got != 0 {
				t.Errorf("Pointer of %d in %d bytes: %d, %d", k, n, got, e)
			}
			refused(page, k, 1)
		}
		if got := told(Pointers(page), -1); len(got) != 0 {
			t.Errorf("Pointers of %d bytes: %v", n, got)
		}
	}
	refused(nil, 0, 0)
	if got := told(Pointers(nil), -1); len(got) != 0 {
		t.Errorf("Pointers of nothing: %v", got)
	}
	for _, size := range sizes {
		for _, x := range []byte{0, 255} {
			page := bytes.Repeat([]byte{x}, size)
			for _, k := range append(places, size/2, size/2+1, size) {
				if got, e := Pointer(page, k); e != api.ErrArg || got != 0 {
					t.Errorf("Pointer of %d in %d bytes: %d, %d", k, size, got, e)
				}
				refused(page, k, 1)
			}
			for _, to := range []int{-1, 8192, 8193, 1 << 16, 1<<16 + 1, math.MaxInt, math.MinInt} {
				refused(page, 0, to)
				refused(page, size/2-1, to)
			}
		}
	}
}

func TestPointers(t *testing.T) { // P9.4, P9.7
	r := rand.New(rand.NewSource(3))
	for _, size := range sizes {
		pages := [][]byte{make([]byte, size), bytes.Repeat([]byte{1}, size), bytes.Repeat([]byte{255}, size), row(r, size)}
		for range 50 {
			pages = append(pages, pointing(r, size))
		}
		for _, page := range pages {
			kept := bytes.Clone(page)
			var want [][2]int
			for k := range size / 2 {
				if p := int(binary.LittleEndian.Uint16(page[2*k:])); p != 0 {
					want = append(want, [2]int{k, p})
				}
			}
			all := Pointers(page)
			if got := told(all, -1); !slices.Equal(got, want) {
				t.Fatalf("Pointers: %v, not %v", got, want)
			}
			for n := 1; n < len(want); n += 1 + r.Intn(20) {
				if got := told(all, n); !slices.Equal(got, want[:n]) {
					t.Fatalf("%d Pointers: %v, not %v", n, got, want[:n])
				}
			}
			same(t, page, kept)
			// What was asked for is not kept: the page may be used anew.
			for i := range page {
				page[i] ^= 255
			}
			if got := told(all, -1); !slices.Equal(got, want) {
				t.Fatalf("Pointers behind a change: %v, not %v", got, want)
			}
		}
	}
}

func TestPlaysOnAPointerPage(t *testing.T) { // P9.4, P9.7
	for _, size := range sizes {
		r := rand.New(rand.NewSource(int64(size)))
		page := make([]byte, size)
		there := make([]int, size/2)
		for range 3000 {
			k, to := r.Intn(size/2), r.Intn(8192)*r.Intn(2)
			var e api.Errno
			if page, e = Point(page, k, to); e != api.OK {
				t.Fatal("Point:", e)
			}
			there[k] = to
			var want [][2]int
			for i, p := range there {
				if got, e := Pointer(page, i); e != api.OK || got != p {
					t.Fatalf("Pointer of %d: %d, %d, not %d", i, got, e, p)
				}
				if p != 0 {
					want = append(want, [2]int{i, p})
				}
			}
			if got := told(Pointers(page), -1); !slices.Equal(got, want) {
				t.Fatalf("Pointers: %v, not %v", got, want)
			}
		}
	}
}

func TestPlaysOnATablePage(t *testing.T) { // P9.2, P9.5
	l := append(rights(), wrongs()...)
	for _, size := range sizes {
		r := rand.New(rand.NewSource(int64(size)))
		page := make([]byte, size)
		there := make([]api.Inode, size/24)
		put := 0
		for range 3000 {
			k, i := r.Intn(len(there)), l[r.Intn(len(l))]
			next, e := Put(page, k, i)
			if (e == api.OK) != Right(i) {
				t.Fatalf("Put of %v: %d", i, e)
			}
			if e == api.OK {
				page, there[k] = next, i
				put++
			}
			for n, want := range there {
				if got, e := Get(page, n); e != api.OK || got != want {
					t.Fatalf("Get of %d: %v, %d, not %v", n, got, e, want)
				}
			}
			if !bytes.Equal(page[24*len(there):], make([]byte, size%24)) {
				t.Fatal("what is behind the inodes was changed")
			}
		}
		if put == 0 || put == 3000 {
			t.Error("too few kinds:", put)
		}
	}
}
