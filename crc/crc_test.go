package crc

import (
	"bytes"
	"hash/crc32"
	"math"
	"math/bits"
	"math/rand"
	"testing"

	"cuneiform/api"
)

// row is n bytes.
func row(r *rand.Rand, n int) []byte {
	b := make([]byte, n)
	r.Read(b)
	return b
}

// asTold puts a byte as the document tells it, digit by digit.
func asTold(r uint32, b byte) uint32 {
	r = r ^ uint32(b)
	for i := 0; i < 8; i++ {
		if r%2 == 1 {
			r = (r / 2) ^ 0xEDB88320
		} else {
			r = r / 2
		}
	}
	return r
}

func TestPut(t *testing.T) { // P1.1
	remainders := []uint32{0, 1, 2, 0x80000000, 0xFFFFFFFF, 0xEDB88320, 0x12345678}
	for x := 0; x < 256; x++ {
		for _, r := range remainders {
			if got, want := Put(r, byte(x)), asTold(r, byte(x)); got != want {
				t.Fatalf("Put(%x, %d): %x, not %x", r, x, got, want)
			}
		}
	}
	if got := Put(0, 1); got != 0x77073096 {
		t.Errorf("Put(0, 1): %x", got)
	}
}

func TestSumOfKnownBytes(t *testing.T) { // P1.1
	for _, c := range []struct {
		bytes string
		sum   uint32
	}{
		{"", 0},
		{"123456789", 0xCBF43926},
		{"a", 0xE8B7BE43},
		{"\x00", 0xD202EF8D},
		{"\xff", 0xFF000000},
		{"\xff\xff\xff\xff", 0xFFFFFFFF},
	} {
		if got := Sum([]byte(c.bytes)); got != c.sum {
			t.Errorf("Sum(%q): %x, not %x", c.bytes, got, c.sum)
		}
	}
	if got := Sum(nil); got != 0 {
		t.Errorf("Sum(nil): %x", got)
	}
}

func TestSumAsOthersReckonIt(t *testing.T) { // P1.1
	r := rand.New(rand.NewSource(1))
	for n := 0; n < 600; n++ {
		b := row(r, n)
		kept := bytes.Clone(b)
		if got, want := Sum(b), crc32.ChecksumIEEE(b); got != want {
			t.Fatalf("Sum of %d bytes: %x, not %x", n, got, want)
		}
		if !bytes.Equal(b, kept) {
			t.Fatal("Sum changed its bytes")
		}
	}
}

func TestMoreFromAnyCut(t *testing.T) { // P1.1, P1.3
	r := rand.New(rand.NewSource(2))
	for _, n := range []int{0, 1, 2, 5, 32, 100} {
		b := row(r, n)
		whole := Sum(b)
		for cut := 0; cut <= n; cut++ {
			if got := More(Sum(b[:cut]), b[cut:]); got != whole {
				t.Fatalf("More at %d of %d: %x, not %x", cut, n, got, whole)
			}
		}
	}
	for range 200 { // cut more than once, and going on from a sum of bytes that are not at hand
		a, b, sum := row(r, r.Intn(9)), row(r, r.Intn(9)), r.Uint32()
		if got, want := More(More(sum, a), b), crc32.Update(sum, crc32.IEEETable, append(bytes.Clone(a), b...)); got != want {
			t.Fatalf("More: %x, not %x", got, want)
		}
	}
	if got := More(7, nil); got != 7 {
		t.Errorf("More of nothing: %x", got)
	}
}

func TestZeros(t *testing.T) { // P1.2
	r := rand.New(rand.NewSource(3))
	for _, n := range []int{0, 1, 2, 3, 4, 7, 8, 31, 32, 33, 255, 256, 1000, 65535, 65537} {
		for range 5 {
			sum := r.Uint32()
			got, e := Zeros(sum, n)
			if want := More(sum, make([]byte, n)); e != api.OK || got != want {
				t.Fatalf("Zeros(%x, %d): %x, %d, not %x", sum, n, got, e, want)
			}
		}
	}
}

func TestZerosToTheEdge(t *testing.T) { // P1.2
	part := make([]byte, 1<<20)
	want := crc32.ChecksumIEEE([]byte("abc"))
	less := want
	for i := range 1 << 10 {
		if i == 1<<10-1 {
			less = crc32.Update(want, crc32.IEEETable, part[1:])
		}
		want = crc32.Update(want, crc32.IEEETable, part)
	}
	if got, e := Zeros(Sum([]byte("abc")), 1<<30); e != api.OK || got != want {
		t.Errorf("Zeros of 2^30: %x, %d, not %x", got, e, want)
	}
	if got, e := Zeros(Sum([]byte("abc")), 1<<30-1); e != api.OK || got != less {
		t.Errorf("Zeros of 2^30 - 1: %x, %d, not %x", got, e, less)
	}
}

func TestJoin(t *testing.T) { // P1.2
	r := rand.New(rand.NewSource(4))
	for range 500 {
		a, b := row(r, r.Intn(300)), row(r, r.Intn(300))
		got, e := Join(Sum(a), Sum(b), len(b))
		if want := Sum(append(bytes.Clone(a), b...)); e != api.OK || got != want {
			t.Fatalf("Join of %d and %d bytes: %x, %d, not %x", len(a), len(b), got, e, want)
		}
	}
	a := Sum([]byte("some"))
	if got, e := Join(a, Sum(nil), 0); e != api.OK || got != a {
		t.Errorf("Join with nothing behind: %x, %d", got, e)
	}
	if got, e := Join(Sum(nil), a, 4); e != api.OK || got != a {
		t.Errorf("Join with nothing ahead: %x, %d", got, e)
	}
	far, _ := Zeros(0, 1<<30)
	want, _ := Zeros(a, 1<<30)
	if got, e := Join(a, far, 1<<30); e != api.OK || got != want {
		t.Errorf("Join over 2^30: %x, %d, not %x", got, e, want)
	}
}

func TestPatch(t *testing.T) { // P1.2
	r := rand.New(rand.NewSource(5))
	for _, n := range []int{1, 2, 3, 8, 33, 130} {
		b := row(r, n)
		sum := Sum(b)
		for at := range b {
			old, now := b[at], byte(r.Intn(256))
			changed := bytes.Clone(b)
			changed[at] = now
			got, e := Patch(sum, n, at, old, now)
			if want := Sum(changed); e != api.OK || got != want {
				t.Fatalf("Patch of %d at %d: %x, %d, not %x", n, at, got, e, want)
			}
			if got, e := Patch(sum, n, at, old, old); e != api.OK || got != sum {
				t.Fatalf("Patch with the same byte: %x, %d", got, e)
			}
		}
	}
}

func TestPatchToTheEdge(t *testing.T) { // P1.2
	zeros, _ := Zeros(0, 1<<30)
	first, _ := Zeros(Sum([]byte{9}), 1<<30-1)
	if got, e := Patch(zeros, 1<<30, 0, 0, 9); e != api.OK || got != first {
		t.Errorf("Patch at 0 of 2^30: %x, %d, not %x", got, e, first)
	}
	ahead, _ := Zeros(0, 1<<30-1)
	last := More(ahead, []byte{9})
	if got, e := Patch(zeros, 1<<30, 1<<30-1, 0, 9); e != api.OK || got != last {
		t.Errorf("Patch at the end of 2^30: %x, %d, not %x", got, e, last)
	}
}

func TestWhatMayNotBe(t *testing.T) { // P1, P1.2
	for _, n := range []int{-1, 1<<30 + 1, math.MinInt, math.MaxInt, -1 << 31} {
		if s, e := Zeros(5, n); s != 0 || e != api.ErrArg {
			t.Errorf("Zeros of %d: %x, %d", n, s, e)
		}
		if s, e := Join(5, 6, n); s != 0 || e != api.ErrArg {
			t.Errorf("Join of %d: %x, %d", n, s, e)
		}
		if s, e := Patch(5, n, 0, 1, 2); s != 0 || e != api.ErrArg {
			t.Errorf("Patch of %d: %x, %d", n, s, e)
		}
		if s, e := Patch(5, 1<<30, n, 1, 2); s != 0 || e != api.ErrArg {
			t.Errorf("Patch at %d: %x, %d", n, s, e)
		}
	}
	for _, c := range []struct{ n, at int }{{0, 0}, {0, -1}, {1, 1}, {4, 4}, {4, 5}, {4, -1}, {1 << 30, 1 << 30}} {
		if s, e := Patch(5, c.n, c.at, 1, 2); s != 0 || e != api.ErrArg {
			t.Errorf("Patch of %d at %d: %x, %d", c.n, c.at, s, e)
		}
	}
}

func TestNoTwoAlike(t *testing.T) { // P1.4
	r := rand.New(rand.NewSource(6))
	for _, n := range []int{1, 4, 5, 40, 544} {
		b := row(r, n)
		sum := Sum(b)
		for at := range b {
			was := b[at]
			for x := 1; x < 256; x++ {
				b[at] = was ^ byte(x)
				if Sum(b) == sum {
					t.Fatalf("one place: the same sum, %d of %d, by %d", at, n, x)
				}
				if n > 100 && x > 2 {
					break
				}
			}
			b[at] = was
		}
		for range 2000 {
			at := r.Intn(n)
			other := bytes.Clone(b)
			r.Read(other[at:min(at+4, n)])
			if (Sum(other) == sum) != bytes.Equal(other, b) {
				t.Fatalf("four bytes: the same sum, %d of %d", at, n)
			}
		}
	}
}

func TestThreeRowsTogether(t *testing.T) { // P1.5
	r := rand.New(rand.NewSource(7))
	for n := 0; n < 200; n++ {
		a, b, c := row(r, n), row(r, n), row(r, n)
		all := make([]byte, n)
		for i := range all {
			all[i] = a[i] ^ b[i] ^ c[i]
		}
		if Sum(a)^Sum(b)^Sum(c) != Sum(all) {
			t.Fatalf("three rows of %d bytes: %x, not %x", n, Sum(a)^Sum(b)^Sum(c), Sum(all))
		}
	}
}

// four are the four bytes of a number.
func four(x uint32) []byte {
	return []byte{byte(x), byte(x >> 8), byte(x >> 16), byte(x >> 24)}
}

func TestJustOneRowOfFour(t *testing.T) { // P1.6
	// By P1.5 what a row of four bytes adds to the sum of four bytes 0 is put together of what its digits add: a row can be found digit by digit, if these adds are independent.
	none := Sum(four(0))
	var adds, of [32]uint32 // adds[i]: what has i as its highest digit, of: the row that adds it
	for i := range 32 {
		add, row := Sum(four(1<<i))^none, uint32(1)<<i
		for add != 0 {
			high := bits.Len32(add) - 1
			if adds[high] == 0 {
				adds[high], of[high] = add, row
				break
			}
			add, row = add^adds[high], row^of[high]
		}
		if add == 0 {
			t.Fatalf("the digit %d adds nothing of its own: two rows have one sum", i)
		}
	}
	r := rand.New(rand.NewSource(8))
	for i := range 1000 {
		want := r.Uint32()
		if i < 2 {
			want = -uint32(i)
		}
		rest, row := want^none, uint32(0)
		for rest != 0 {
			high := bits.Len32(rest) - 1
			rest, row = rest^adds[high], row^of[high]
		}
		if got := Sum(four(row)); got != want {
			t.Fatalf("no row of four bytes has the sum %x", want)
		}
	}
}
