package ecc

import (
	"bytes"
	"encoding/binary"
	"fmt"
	"math"
	"math/rand"
	"slices"
	"testing"

	"cuneiform/api"
)

// lengths are blocks' lengths, those at the edges among them: of 1, 2, 4 .. bytes, and where a place comes to stand behind a power of 2.
var lengths = []int{1, 2, 3, 4, 5, 7, 8, 9, 15, 16, 17, 31, 32, 33, 64, 100, 255, 256, 257, 512, 1000, 1024, 2047, 2048, 4091, 4095, 4096}

// some are n bytes.
func some(r *rand.Rand, n int) []byte {
	b := make([]byte, n)
	r.Read(b)
	return b
}

// placesTold are the places of n bits as the document tells them.
func placesTold(n int) []uint32 {
	var l []uint32
	power := uint32(4)
	for x := uint32(3); len(l) < n; x++ {
		if x == power {
			power *= 2
			continue
		}
		l = append(l, x)
	}
	return l
}

// bit is the bit of that number.
func bit(b []byte, n int) int {
	return int(b[n/8]) / (1 << (n % 8)) % 2
}

// ones are the digits of a number that are 1.
func ones(x uint32) int {
	n := 0
	for ; x > 0; x /= 2 {
		n += int(x % 2)
	}
	return n
}

// codeTold is a block's code as the document tells it.
func codeTold(b []byte) uint32 {
	var lower uint32
	n := 0
	for i, place := range placesTold(8 * len(b)) {
		if bit(b, i) == 1 {
			lower ^= place
			n++
		}
	}
	return lower + uint32((n+ones(lower))%2)*65536
}

// mendTold is what Mend is to answer.
func mendTold(b []byte, code uint32) ([]byte, int, api.Errno) {
	if len(b) < 1 || len(b) > 4096 || code > 131071 {
		return nil, 0, api.ErrArg
	}
	s := code%65536 ^ codeTold(b)%65536
	n := ones(code)
	for i := range 8 * len(b) {
		n += bit(b, i)
	}
	at := slices.Index(placesTold(8*len(b)), s)
	switch {
	case s == 0 && n%2 == 0:
		return bytes.Clone(b), -1, api.OK
	case n%2 == 1 && ones(s) <= 1:
		return bytes.Clone(b), -2, api.OK
	case n%2 == 1 && at >= 0:
		return turnedAt(b, at), at, api.OK
	}
	return nil, 0, api.ErrTorn
}

// turnedAt is a block in which bits are turned.
func turnedAt(b []byte, at ...int) []byte {
	t := bytes.Clone(b)
	for _, n := range at {
		t[n/8] ^= 1 << (n % 8)
	}
	return t
}

// mended fails the test, if Mend answers something else than this.
func mended(t *testing.T, b []byte, code uint32, want []byte, at int, e api.Errno) {
	t.Helper()
	kept := bytes.Clone(b)
	got, n, err := Mend(b, code)
	if !bytes.Equal(got, want) || n != at || err != e {
		t.Fatalf("Mend of %s by %d: %s, %d, %d, not %s, %d, %d", short(b), code, short(got), n, err, short(want), at, e)
	}
	clear(got)
	if !bytes.Equal(b, kept) {
		t.Fatal("Mend changed the block that it was handed, or answers its memory")
	}
}

// short is a text of bytes, or of the first ones of many.
func short(b []byte) string {
	if len(b) > 32 {
		return fmt.Sprintf("%v.. (%d bytes)", b[:32], len(b))
	}
	return fmt.Sprint(b)
}

// codeOK is the code of what is a block.
func codeOK(t *testing.T, b []byte) uint32 {
	t.Helper()
	c, e := Code(b)
	if e != api.OK {
		t.Fatalf("Code of %d bytes: %d", len(b), e)
	}
	return c
}

func TestExamples(t *testing.T) { // P17.1
	if c := codeOK(t, []byte{1}); c != 65539 {
		t.Errorf("Code of the byte 1: %d", c)
	}
	mended(t, []byte{0}, 65539, []byte{1}, 0, api.OK)
	mended(t, []byte{1}, 65537, []byte{1}, -2, api.OK)
}

func TestCodeOfOneBit(t *testing.T) { // P17.1
	for i, place := range []uint32{3, 5, 6, 7, 9, 10, 11, 12, 13, 14, 15, 17} {
		b := make([]byte, 2)
		b[i/8] = 1 << (i % 8)
		want := place
		if ones(place)%2 == 0 {
			want += 65536
		}
		if c := codeOK(t, b); c != want {
			t.Errorf("Code of the bit %d: %d, not %d", i, c, want)
		}
	}
	// The last bit of the greatest block has the place 32784, which has two digits 1: 32767 bits, 0, 1, 2 and the 14 powers of 2 from 4 on stand ahead of it.
	b := make([]byte, 4096)
	b[4095] = 128
	if c := codeOK(t, b); c != 65536+32784 {
		t.Errorf("Code of the last bit: %d", c)
	}
}

func TestCode(t *testing.T) { // P17.1
	r := rand.New(rand.NewSource(1))
	for x := range 256 {
		for y := range 256 {
			b := []byte{byte(x), byte(y)}
			if c := codeOK(t, b); c != codeTold(b) {
				t.Fatalf("Code of %v: %d, not %d", b, c, codeTold(b))
			}
		}
	}
	for _, n := range lengths {
		for _, b := range [][]byte{make([]byte, n), bytes.Repeat([]byte{255}, n), some(r, n), some(r, n)} {
			kept := bytes.Clone(b)
			if c := codeOK(t, b); c != codeTold(b) {
				t.Fatalf("Code of %s: %d, not %d", short(b), c, codeTold(b))
			}
			if !bytes.Equal(b, kept) {
				t.Fatal("Code changed the block")
			}
		}
	}
}

func TestWhatIsNoBlock(t *testing.T) { // P17.1, P1
	for _, b := range [][]byte{nil, {}, make([]byte, 4097), make([]byte, 5000), make([]byte, 1<<16), make([]byte, 1<<22)} {
		if c, e := Code(b); c != 0 || e != api.ErrArg {
			t.Errorf("Code of %d bytes: %d, %d", len(b), c, e)
		}
		for _, code := range []uint32{0, 3, 65539, 1 << 17, math.MaxUint32} {
			mended(t, b, code, nil, 0, api.ErrArg)
		}
	}
}

func TestMendByWhatIsNoCode(t *testing.T) { // P17.1
	for _, b := range [][]byte{{0}, {1}, []byte("hello"), make([]byte, 4096)} {
		c := codeOK(t, b)
		for digit := 17; digit < 32; digit++ {
			mended(t, b, c|1<<digit, nil, 0, api.ErrArg)
			// Also where more was hurt than can be mended.
			mended(t, turnedAt(b, 1, 6), c|1<<digit, nil, 0, api.ErrArg)
		}
		mended(t, b, math.MaxUint32, nil, 0, api.ErrArg)
	}
}

func TestMendOfEachByteByEachCode(t *testing.T) { // P17.1
	r := rand.New(rand.NewSource(2))
	kinds := map[int]int{}
	for range 16 {
		b := some(r, 1+r.Intn(3))
		for code := range uint32(1 << 17) {
			if len(b) > 1 && r.Intn(8) > 0 {
				continue
			}
			want, at, e := mendTold(b, code)
			mended(t, b, code, want, at, e)
			kinds[min(at, 0)+10*int(e)]++
		}
	}
	if len(kinds) != 4 {
		t.Errorf("not all kinds were there: %v", kinds)
	}
}

func TestMendOfLongBlocks(t *testing.T) { // P17.1
	r := rand.New(rand.NewSource(3))
	for _, n := range lengths {
		for range 20 {
			b := some(r, n)
			code := r.Uint32() % (1 << 17)
			if r.Intn(2) == 0 {
				code = codeTold(b) ^ placesTold(8 * n)[r.Intn(8*n)] ^ uint32(r.Intn(2))<<16
			}
			want, at, e := mendTold(b, code)
			mended(t, b, code, want, at, e)
		}
	}
}

func TestAPlaceBehindTheBlock(t *testing.T) { // P17.1
	// The place of the first bit behind a block, and of later ones, though told by an odd number of hurts, is none of a bit of the block.
	for _, n := range lengths {
		b := bytes.Repeat([]byte{165}, n)
		own := codeOK(t, b)
		all := placesTold(8*n + 20)
		for i, place := range all[8*n-1:] {
			code := own ^ place
			if ones(place)%2 == 0 {
				code ^= 65536
			}
			if i == 0 {
				mended(t, b, code, turnedAt(b, 8*n-1), 8*n-1, api.OK)
				continue
			}
			mended(t, b, code, nil, 0, api.ErrTorn)
		}
		mended(t, b, own^65535^65536, nil, 0, api.ErrTorn)
	}
}

func TestAPlaceAndAnEvenNumber(t *testing.T) { // P17.1
	for _, n := range []int{1, 2, 64, 4096} {
		b := bytes.Repeat([]byte{90}, n)
		own := codeOK(t, b)
		for _, place := range placesTold(8) {
			code := own ^ place
			if ones(place)%2 == 1 {
				code ^= 65536
			}
			mended(t, b, code, nil, 0, api.ErrTorn)
		}
	}
}

func TestWholeByItsOwnCode(t *testing.T) { // P17.3
	r := rand.New(rand.NewSource(4))
	for _, n := range lengths {
		for _, b := range [][]byte{make([]byte, n), bytes.Repeat([]byte{255}, n), some(r, n)} {
			mended(t, b, codeOK(t, b), b, -1, api.OK)
		}
	}
	for n := 1; n <= 4096; n += 1 + r.Intn(9) {
		b := some(r, n)
		mended(t, b, codeOK(t, b), b, -1, api.OK)
	}
}

func TestOneBit(t *testing.T) { // P17.4
	r := rand.New(rand.NewSource(5))
	for _, n := range lengths {
		for _, b := range [][]byte{make([]byte, n), bytes.Repeat([]byte{255}, n), some(r, n)} {
			code := codeOK(t, b)
			step := 1 + n/32
			for at := 0; at < 8*n; at += 1 + r.Intn(2*step-1) {
				mended(t, turnedAt(b, at), code, b, at, api.OK)
			}
			for _, at := range []int{0, 8*n - 2, 8*n - 1} {
				mended(t, turnedAt(b, at), code, b, at, api.OK)
			}
			for digit := range 17 {
				mended(t, b, code^1<<digit, b, -2, api.OK)
			}
		}
	}
}

func TestEachBitOfTheGreatestBlock(t *testing.T) { // P17.4
	b := some(rand.New(rand.NewSource(6)), 4096)
	code := codeOK(t, b)
	for at := 0; at < 8*4096; at += 7 {
		hurt := turnedAt(b, at)
		if got, n, e := Mend(hurt, code); e != api.OK || n != at || !bytes.Equal(got, b) {
			t.Fatalf("the bit %d turned: %d, %d", at, n, e)
		}
	}
}

func TestTwoBits(t *testing.T) { // P17.5
	r := rand.New(rand.NewSource(7))
	// twice hurts what has the numbers x and y: bits first, digits of the code behind them.
	twice := func(b []byte, code uint32, x, y int) {
		t.Helper()
		hurt := bytes.Clone(b)
		for _, n := range []int{x, y} {
			if n < 8*len(b) {
				hurt = turnedAt(hurt, n)
			} else {
				code ^= 1 << (n - 8*len(b))
			}
		}
		mended(t, hurt, code, nil, 0, api.ErrTorn)
	}
	for _, n := range []int{1, 2, 3, 5, 8, 16} {
		b := some(r, n)
		code := codeOK(t, b)
		for x := range 8*n + 17 {
			for y := range x {
				twice(b, code, x, y)
			}
		}
	}
	for _, n := range lengths {
		b := some(r, n)
		code := codeOK(t, b)
		for range 100 {
			x, y := r.Intn(8*n+17), r.Intn(8*n+17)
			if r.Intn(3) == 0 {
				y = 8*n + r.Intn(17)
			}
			if x != y {
				twice(b, code, x, y)
			}
		}
	}
}

// codesTold are the codes of a row of blocks as the document tells them.
func codesTold(b []byte, n int) []byte {
	var codes []byte
	for from := 0; from < len(b); from += n {
		codes = binary.LittleEndian.AppendUint32(codes, codeTold(b[from:min(from+n, len(b))]))
	}
	return codes
}

// mendAllTold is what MendAll is to answer of what may be mended.
func mendAllTold(b []byte, n int, codes []byte) ([]byte, Fixed) {
	var all []byte
	var f Fixed
	for k := 0; k*n < len(b); k++ {
		block := b[k*n : min(k*n+n, len(b))]
		fixed, at, e := mendTold(block, binary.LittleEndian.Uint32(codes[4*k:]))
		switch {
		case e != api.OK:
			f.Lost++
			fixed = block
		case at == -1:
			f.Whole++
		case at == -2:
			f.Code++
		default:
			f.Turned++
		}
		all = append(all, fixed...)
	}
	return all, f
}

// rows are rows of blocks: how many bytes, of which size.
var rows = [][2]int{{0, 1}, {0, 4096}, {1, 1}, {1, 2}, {1, 4096}, {2, 1}, {7, 3}, {6, 3}, {8, 3}, {100, 64}, {128, 64}, {129, 64}, {1000, 1}, {4096, 4096}, {4097, 4096}, {8192, 4096}, {10000, 4095}, {10000, 333}, {65536, 4096}, {65536, 1024}, {65535, 16}, {65536, 1}}

func TestCodes(t *testing.T) { // P17.2
	r := rand.New(rand.NewSource(8))
	for _, c := range rows {
		b := some(r, c[0])
		kept := bytes.Clone(b)
		codes, e := Codes(b, c[1])
		if e != api.OK || !bytes.Equal(codes, codesTold(b, c[1])) {
			t.Errorf("Codes of %d bytes in blocks of %d: %d, %s", c[0], c[1], e, short(codes))
		}
		clear(codes)
		if !bytes.Equal(b, kept) {
			t.Error("Codes changed the bytes")
		}
	}
	// Each code stands with its least byte first, also its digit 16.
	if codes, e := Codes([]byte{1, 0, 1}, 2); e != api.OK || !bytes.Equal(codes, []byte{3, 0, 1, 0, 3, 0, 1, 0}) {
		t.Errorf("Codes: %v, %d", codes, e)
	}
	if codes, e := Codes(nil, 5); e != api.OK || len(codes) != 0 {
		t.Errorf("Codes of no bytes: %v, %d", codes, e)
	}
}

func TestCodesOfWhatMayNotBe(t *testing.T) { // P17.2, P1
	for _, c := range []struct{ bytes, n int }{
		{0, 0}, {0, -1}, {0, 4097}, {10, 0}, {10, -1}, {10, -4096}, {10, 4097}, {10, 1 << 16}, {10, math.MaxInt}, {10, math.MinInt},
		{65537, 1}, {65537, 64}, {65537, 4096}, {1 << 20, 4096}, {65537, 0}, {65537, math.MaxInt},
	} {
		b := make([]byte, c.bytes)
		if codes, e := Codes(b, c.n); e != api.ErrArg || len(codes) != 0 {
			t.Errorf("Codes of %d bytes in blocks of %d: %s, %d", c.bytes, c.n, short(codes), e)
		}
		for _, codes := range [][]byte{nil, make([]byte, 4), make([]byte, 40), make([]byte, 4*c.bytes)} {
			if got, f, e := MendAll(b, c.n, codes); e != api.ErrArg || len(got) != 0 || f != (Fixed{}) {
				t.Errorf("MendAll of %d bytes in blocks of %d by %d: %s, %v, %d", c.bytes, c.n, len(codes), short(got), f, e)
			}
		}
	}
}

func TestMendAllByOtherCodes(t *testing.T) { // P17.2
	for _, c := range rows {
		b := make([]byte, c[0])
		want := 4 * ((c[0] + c[1] - 1) / c[1])
		for _, n := range []int{0, 1, 3, 4, 5, want - 4, want - 3, want - 1, want, want + 1, want + 3, want + 4, 2 * want, 1 << 19} {
			if n < 0 {
				continue
			}
			got, f, e := MendAll(b, c[1], make([]byte, n))
			if n == want {
				if e != api.OK || !bytes.Equal(got, b) || f != (Fixed{Whole: want / 4}) {
					t.Errorf("MendAll of %d bytes in blocks of %d: %v, %d", c[0], c[1], f, e)
				}
			} else if e != api.ErrArg || len(got) != 0 || f != (Fixed{}) {
				t.Errorf("MendAll of %d bytes in blocks of %d by %d bytes of codes: %v, %d", c[0], c[1], n, f, e)
			}
		}
	}
}

func TestMendAllOfFour(t *testing.T) { // P17.2
	b := []byte("four blocks of six bytes, and some")
	codes, _ := Codes(b, 6)
	hurt := turnedAt(b, 6*8+5, 12*8, 12*8+1, len(b)*8-1)
	hurtCodes := turnedAt(codes, 3*32+16, 4*32+17)
	keptBytes, keptCodes := bytes.Clone(hurt), bytes.Clone(hurtCodes)
	got, f, e := MendAll(hurt, 6, hurtCodes)
	// The third block stays as it is; of the fifth the code is none, though the block is as it was.
	if want := turnedAt(b, 12*8, 12*8+1); e != api.OK || !bytes.Equal(got, want) || f != (Fixed{Whole: 1, Turned: 2, Code: 1, Lost: 2}) {
		t.Errorf("MendAll: %q, %v, %d, not %q", got, f, e, want)
	}
	clear(got)
	if !bytes.Equal(hurt, keptBytes) || !bytes.Equal(hurtCodes, keptCodes) {
		t.Error("MendAll changed what it was handed, or answers its memory")
	}
}

func TestMendAllByCodesThatAreNone(t *testing.T) { // P17.2
	b := []byte{1, 2, 3}
	for digit := 17; digit < 32; digit++ {
		codes, _ := Codes(b, 1)
		hurt := turnedAt(codes, 32+digit)
		if got, f, e := MendAll(b, 1, hurt); e != api.OK || !bytes.Equal(got, b) || f != (Fixed{Whole: 2, Lost: 1}) {
			t.Errorf("the digit %d turned: %v, %v, %d", digit, got, f, e)
		}
	}
}

func TestMendAll(t *testing.T) { // P17.2, P17.3, P17.4, P17.5
	r := rand.New(rand.NewSource(9))
	var all Fixed
	for range 400 {
		n := 1 + r.Intn(20)
		if r.Intn(10) == 0 {
			n = 1 + r.Intn(300)
		}
		b := some(r, r.Intn(20*n))
		codes, e := Codes(b, n)
		if e != api.OK {
			t.Fatal("Codes:", e)
		}
		if got, f, e := MendAll(b, n, codes); e != api.OK || !bytes.Equal(got, b) || f != (Fixed{Whole: len(codes) / 4}) {
			t.Fatalf("MendAll of what is whole: %v, %d", f, e)
		}
		for range r.Intn(12) {
			if len(b) > 0 && r.Intn(2) == 0 {
				b = turnedAt(b, r.Intn(8*len(b)))
			} else if len(codes) > 0 {
				codes = turnedAt(codes, 32*r.Intn(len(codes)/4)+r.Intn(18))
			}
		}
		want, fixed := mendAllTold(b, n, codes)
		got, f, e := MendAll(b, n, codes)
		if e != api.OK || !bytes.Equal(got, want) || f != fixed {
			t.Fatalf("MendAll of %s in blocks of %d by %v: %s, %v, %d, not %s, %v", short(b), n, codes, short(got), f, e, short(want), fixed)
		}
		all = Fixed{all.Whole + f.Whole, all.Turned + f.Turned, all.Code + f.Code, all.Lost + f.Lost}
	}
	if all.Whole == 0 || all.Turned == 0 || all.Code == 0 || all.Lost == 0 {
		t.Errorf("not all kinds were there: %v", all)
	}
}
