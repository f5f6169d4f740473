package tag

import (
	"bytes"
	"encoding/binary"
	"hash/crc32"
	"math"
	"math/rand"
	"testing"

	"cuneiform/api"
	"cuneiform/nand"
)

var sizes = []int{64, 128, 256, 512}

// some is a tag that is right.
var some = api.Tag{Kind: api.KPage, Page: 3, Seq: 5, Epoch: 2}

// row is n bytes.
func row(r *rand.Rand, n int) []byte {
	b := make([]byte, n)
	r.Read(b)
	return b
}

// rights are tags that are right, those at the edges among them.
func rights() []api.Tag {
	var l []api.Tag
	for _, kind := range []int{api.KPage, api.KSeal} {
		for _, page := range []uint32{0, 1, 255, 256, 8191} {
			for _, n := range []uint64{1, 2, 1 << 32, 0x0123456789ABCDEF, 1<<62 - 1} {
				l = append(l, api.Tag{Kind: kind, Page: page, Seq: n, Epoch: 7}, api.Tag{Kind: kind, Page: page, Seq: 7, Epoch: n})
			}
		}
	}
	return l
}

// wrongs are tags of which each is not right by one number alone.
func wrongs() []api.Tag {
	var l []api.Tag
	for _, kind := range []int{0, 3, 4, 255, -1, 256, 257, 258, 1<<32 + 1, math.MaxInt, math.MinInt} {
		t := some
		t.Kind = kind
		l = append(l, t)
	}
	for _, page := range []uint32{8192, 8193, 1 << 16, 1<<31 + 3, math.MaxUint32} {
		t := some
		t.Page = page
		l = append(l, t)
	}
	for _, n := range []uint64{0, 1 << 62, 1<<62 + 1, 1 << 63, math.MaxUint64} {
		t, u := some, some
		t.Seq, u.Epoch = n, n
		l = append(l, t, u)
	}
	return append(l, api.Tag{})
}

// asTold are a page's bytes as the document tells them, also of a tag that is not right.
func asTold(t api.Tag, payload []byte) []byte {
	b := append(bytes.Clone(payload), 67, 85, byte(t.Kind), 0)
	b = binary.LittleEndian.AppendUint32(b, t.Page)
	b = binary.LittleEndian.AppendUint64(b, t.Seq)
	b = binary.LittleEndian.AppendUint64(b, t.Epoch)
	return append(summed(append(b, 0, 0, 0, 0)), 0, 0, 0, 0)
}

// summed are bytes with the sum of all ahead of the last four in these.
func summed(b []byte) []byte {
	binary.LittleEndian.PutUint32(b[len(b)-4:], crc32.ChecksumIEEE(b[:len(b)-4]))
	return b
}

// refuses fails the test, if Read answers something else than that error.
func refuses(t *testing.T, what string, b []byte, want api.Errno) {
	t.Helper()
	if got, p, e := Read(b); e != want || got != (api.Tag{}) || len(p) != 0 {
		t.Fatalf("Read of %s: %v, %v, %d, not %d", what, got, p, e, want)
	}
}

func TestRight(t *testing.T) { // P3.1
	for _, x := range rights() {
		if !Right(x) {
			t.Errorf("%v is not right", x)
		}
	}
	for _, x := range wrongs() {
		if Right(x) {
			t.Errorf("%v is right", x)
		}
	}
}

func TestWriteOfTheExample(t *testing.T) { // P3.1
	b, e := Write(some, make([]byte, 64))
	if e != api.OK || len(b) != 96 {
		t.Fatalf("Write: %d bytes, %d", len(b), e)
	}
	beside := []byte{67, 85, 1, 0, 3, 0, 0, 0, 5, 0, 0, 0, 0, 0, 0, 0, 2, 0, 0, 0, 0, 0, 0, 0}
	if !bytes.Equal(b[:64], make([]byte, 64)) || !bytes.Equal(b[64:88], beside) {
		t.Errorf("Write: %v", b)
	}
	if got, want := binary.LittleEndian.Uint32(b[88:]), crc32.ChecksumIEEE(b[:88]); got != want {
		t.Errorf("the sum: %x, not %x", got, want)
	}
	if !bytes.Equal(b[92:], make([]byte, 4)) {
		t.Errorf("behind the sum: %v", b[92:])
	}
}

func TestWrite(t *testing.T) { // P3.1
	r := rand.New(rand.NewSource(1))
	for _, n := range sizes {
		for _, x := range rights() {
			payload := row(r, n)
			kept := bytes.Clone(payload)
			b, e := Write(x, payload)
			if want := asTold(x, payload); e != api.OK || !bytes.Equal(b, want) {
				t.Fatalf("Write of %v and %d bytes: %v, %d, not %v", x, n, b, e, want)
			}
			clear(b)
			if !bytes.Equal(payload, kept) {
				t.Fatal("what is written shares the payload's memory")
			}
		}
	}
}

func TestWriteOfAPartOfMore(t *testing.T) { // P3.1
	all := bytes.Repeat([]byte{9}, 200)
	if _, e := Write(some, all[:64]); e != api.OK {
		t.Fatal("Write:", e)
	}
	if !bytes.Equal(all, bytes.Repeat([]byte{9}, 200)) {
		t.Error("Write changed what stands behind the payload")
	}
}

func TestWriteOfWhatMayNotBe(t *testing.T) { // P3.1, P1
	refused := func(x api.Tag, payload []byte) {
		t.Helper()
		if b, e := Write(x, payload); e != api.ErrArg || len(b) != 0 {
			t.Errorf("Write of %v and %d bytes: %v, %d", x, len(payload), b, e)
		}
	}
	for _, x := range wrongs() {
		for _, n := range append(sizes, 0, 65) {
			refused(x, make([]byte, n))
		}
	}
	refused(some, nil)
	for _, n := range []int{0, 1, 32, 63, 65, 96, 127, 129, 160, 192, 255, 257, 288, 384, 511, 513, 544, 1024} {
		refused(some, make([]byte, n))
	}
}

func TestReadOfOtherLengths(t *testing.T) { // P3.2, P1
	refuses(t, "nothing", nil, api.ErrArg)
	for n := range 1100 {
		if n == 96 || n == 160 || n == 288 || n == 544 {
			continue
		}
		refuses(t, "bytes 0", make([]byte, n), api.ErrArg)
		refuses(t, "bytes 255", bytes.Repeat([]byte{255}, n), api.ErrArg)
	}
	// A sum that is right makes no page of them.
	for _, n := range []int{0, 32, 63, 65, 96, 192, 1024} {
		refuses(t, "another payload", asTold(some, make([]byte, n)), api.ErrArg)
	}
}

func TestReadOfErased(t *testing.T) { // P3.2
	for _, n := range sizes {
		b := bytes.Repeat([]byte{255}, n+32)
		refuses(t, "bytes 255", b, api.ErrErased)
		for at := range b {
			for _, x := range []byte{0, 1, 127, 254} {
				b[at] = x
				refuses(t, "bytes 255 but one", b, api.ErrTorn)
			}
			b[at] = 255
		}
		refuses(t, "bytes 0", make([]byte, n+32), api.ErrTorn)
	}
}

func TestRead(t *testing.T) { // P3.2, P3.3, P3.6
	r := rand.New(rand.NewSource(2))
	for _, n := range sizes {
		for _, x := range rights() {
			payload := row(r, n)
			b := asTold(x, payload)
			kept := bytes.Clone(b)
			got, p, e := Read(b)
			if e != api.OK || got != x || !bytes.Equal(p, payload) {
				t.Fatalf("Read: %v, %v, %d, not %v, %v", got, p, e, x, payload)
			}
			if again, e := Write(got, p); e != api.OK || !bytes.Equal(again, b) {
				t.Fatalf("what was read is written as %v, %d, not %v", again, e, b)
			}
			clear(p)
			_ = append(p, 1, 2, 3)
			if !bytes.Equal(b, kept) {
				t.Fatal("what is read shares the bytes' memory")
			}
		}
	}
}

func TestReadOfEvenPayloads(t *testing.T) { // P3.2, P3.3
	for _, n := range sizes {
		for _, x := range []byte{0, 1, 67, 255} {
			payload := bytes.Repeat([]byte{x}, n)
			b, e := Write(some, payload)
			if e != api.OK {
				t.Fatal("Write:", e)
			}
			if got, p, e := Read(b); e != api.OK || got != some || !bytes.Equal(p, payload) {
				t.Errorf("Read of a payload of bytes %d: %v, %v, %d", x, got, p, e)
			}
		}
	}
}

func TestReadOfTagsThatAreNotRight(t *testing.T) { // P3.2
	for _, n := range sizes {
		for _, x := range wrongs() {
			if kind := x.Kind; kind == 257 || kind == 258 || kind == 1<<32+1 {
				continue // its byte is that of a Kind that is right
			}
			refuses(t, "a tag that is not right", asTold(x, make([]byte, n)), api.ErrTorn)
		}
	}
}

func TestReadOfOtherMarks(t *testing.T) { // P3.2
	for _, n := range sizes {
		whole := asTold(some, make([]byte, n))
		for _, at := range []int{n, n + 1, n + 3} {
			for x := 1; x < 256; x++ {
				b := bytes.Clone(whole)
				b[at] ^= byte(x)
				summed(b[:n+28])
				refuses(t, "another mark, with its sum", b, api.ErrTorn)
			}
		}
		for at := n + 28; at < n+32; at++ {
			for x := 1; x < 256; x++ {
				b := bytes.Clone(whole)
				b[at] = byte(x)
				refuses(t, "other bytes behind the sum", b, api.ErrTorn)
			}
		}
	}
}

func TestReadOfOtherSums(t *testing.T) { // P3.2
	b := asTold(some, make([]byte, 64))
	for digit := range 32 {
		other := bytes.Clone(b)
		other[88+digit/8] ^= 1 << (digit % 8)
		refuses(t, "another sum", other, api.ErrTorn)
	}
	// The sum of the payload alone, and one that goes on over its own place, are none.
	other := bytes.Clone(b)
	binary.LittleEndian.PutUint32(other[88:], crc32.ChecksumIEEE(other[:64]))
	refuses(t, "the payload's sum", other, api.ErrTorn)
	binary.BigEndian.PutUint32(other[88:], crc32.ChecksumIEEE(other[:88]))
	refuses(t, "the sum, its greatest byte first", other, api.ErrTorn)
}

func TestFourBytesThatStandTogether(t *testing.T) { // P3.4
	r := rand.New(rand.NewSource(3))
	for _, n := range sizes {
		for _, payload := range [][]byte{row(r, n), make([]byte, n), bytes.Repeat([]byte{255}, n)} {
			b, e := Write(rights()[r.Intn(len(rights()))], payload)
			if e != api.OK {
				t.Fatal("Write:", e)
			}
			for at := range len(b) - 3 {
				for range 20 {
					other := bytes.Clone(b)
					four := other[at : at+4]
					switch r.Intn(4) {
					case 0:
						r.Read(four)
					case 1:
						clear(four)
					case 2:
						copy(four, []byte{255, 255, 255, 255})
					case 3:
						four[r.Intn(4)] ^= 1 << r.Intn(8)
					}
					if !bytes.Equal(other, b) {
						refuses(t, "a page that differs within four bytes", other, api.ErrTorn)
					}
				}
			}
		}
	}
}

func TestErasedButForItsFirstBytes(t *testing.T) { // P3.5
	r := rand.New(rand.NewSource(4))
	for _, n := range sizes {
		whole := asTold(some, row(r, n))
		for k := 1; k <= n+28; k++ {
			for _, from := range [][]byte{whole, row(r, n+32), make([]byte, n+32)} {
				b := bytes.Repeat([]byte{255}, n+32)
				copy(b, from[:k])
				if _, _, e := Read(b); e == api.OK {
					t.Fatalf("valid with %d of %d bytes", k, n+32)
				}
			}
		}
	}
}

func TestOnePageOneTag(t *testing.T) { // P3.6
	seen := map[string]api.Tag{}
	for _, x := range append(rights(), some) {
		b, e := Write(x, make([]byte, 64))
		if e != api.OK {
			t.Fatal("Write:", e)
		}
		if was, there := seen[string(b)]; there && was != x {
			t.Errorf("%v and %v are written as the same bytes", was, x)
		}
		seen[string(b)] = x
	}
}

func TestNewer(t *testing.T) { // P3.2
	seqs := []uint64{0, 1, 2, 1 << 32, 1<<62 - 1, 1 << 62, 1 << 63, math.MaxUint64}
	for i, a := range seqs {
		for k, b := range seqs {
			// Neither the Epoch nor anything else plays a part.
			x := api.Tag{Kind: api.KPage, Page: uint32(k), Seq: a, Epoch: uint64(k)}
			y := api.Tag{Kind: api.KSeal, Page: uint32(i), Seq: b, Epoch: uint64(i)}
			if Newer(x, y) != (i > k) {
				t.Errorf("Newer of Seq %d and %d: %v", a, b, Newer(x, y))
			}
		}
	}
}

func TestPagesOfAChip(t *testing.T) { // W1
	r := rand.New(rand.NewSource(5))
	for _, n := range sizes {
		for torn := 0; torn <= n+32; torn += 1 + r.Intn(9) {
			c, e := nand.New(api.Geo{Blocks: 8, Pages: 4, Size: n}, nil)
			if e != api.OK {
				t.Fatal("New:", e)
			}
			first, _ := Write(some, row(r, n))
			second, _ := Write(api.Tag{Kind: api.KSeal, Seq: 6, Epoch: 2}, append([]byte{0}, row(r, n-1)...))
			c.Script([]api.Fault{{At: 1, Kind: api.Within, Data: second[:torn]}})
			c.Program(0, 0, first)
			c.Program(0, 1, second)
			c.Start()
			wants := []api.Errno{api.OK, api.ErrTorn, api.ErrErased}
			switch torn {
			case 0:
				wants[1] = api.ErrErased // programmed, but with nothing: it reads as an erased one does
			case n + 32:
				wants[1] = api.OK
			}
			for i, want := range wants {
				b, e := c.Read(0, i)
				if e != api.OK {
					t.Fatal("the chip's Read:", e)
				}
				if _, _, e := Read(b); e != want {
					t.Errorf("the page %d, torn behind %d bytes: %d, not %d", i, torn, e, want)
				}
			}
		}
	}
}
