package hist

import (
	"bytes"
	"fmt"
	"math"
	"math/rand"
	"strings"
	"testing"

	"cuneiform/api"
)

// short is a text of bytes, or of the first ones of many.
func short(b []byte) string {
	if len(b) > 60 {
		return fmt.Sprintf("%v.. (%d bytes)", b[:60], len(b))
	}
	return fmt.Sprint(b)
}

// written fails the test, if operations are written as something else.
func written(t *testing.T, l []Op, want []byte, e api.Errno) {
	t.Helper()
	if b, got := Write(l); !bytes.Equal(b, want) || got != e {
		t.Errorf("Write of %d: %s, %d, not %s, %d", len(l), short(b), got, short(want), e)
	}
}

// reads fails the test, if something else is read, or it is refused with another error.
func reads(t *testing.T, b []byte, e api.Errno, want ...Op) {
	t.Helper()
	l, got := Read(b)
	if got != e || e != api.OK && len(l) != 0 {
		t.Errorf("Read of %s: %d operations, %d, not %d", short(b), len(l), got, e)
		return
	}
	sameOps(t, "Read of "+short(b), l, want)
}

// full is an operation that uses all that it has.
func full() Op {
	return Op{Kind: 11, Path: "/ab", To: "/c", Handle: -2, N: 0x01020304, Off: -3, Bytes: []byte{9, 8, 7}}
}

func TestBytes(t *testing.T) { // P25.2
	none := []byte{72, 73, 83, 84, 0, 0, 0, 0}
	written(t, nil, sealed(none), api.OK)
	written(t, []Op{}, sealed(none), api.OK)
	reads(t, sealed(none), api.OK)
	one := sealed([]byte{72, 73, 83, 84, 1, 0, 0, 0,
		11, 3, 47, 97, 98, 2, 47, 99, 254, 255, 255, 255, 4, 3, 2, 1, 253, 255, 255, 255, 255, 255, 255, 255, 3, 0, 9, 8, 7})
	written(t, []Op{full()}, one, api.OK)
	reads(t, one, api.OK, full())
	two := sealed([]byte{72, 73, 83, 84, 2, 0, 0, 0,
		14, 0, 0, 0, 0, 0, 128, 255, 255, 255, 127, 0, 0, 0, 0, 0, 0, 0, 128, 0, 0,
		1, 0, 0, 255, 255, 255, 127, 0, 0, 0, 128, 255, 255, 255, 255, 255, 255, 255, 127, 0, 0})
	l := []Op{{Kind: 14, Handle: math.MinInt32, N: math.MaxInt32, Off: math.MinInt64}, {Kind: 1, Handle: math.MaxInt32, N: math.MinInt32, Off: math.MaxInt64}}
	written(t, l, two, api.OK)
	reads(t, two, api.OK, l...)
	// What is long is counted in more than one byte.
	long := Op{Kind: 4, Path: strings.Repeat("p", 255), To: strings.Repeat("q", 255), Bytes: bytes.Repeat([]byte{5}, 1024)}
	b, e := Write([]Op{long})
	if e != api.OK || len(b) != 8+1555+4 || b[9] != 255 || b[265] != 255 || b[8+529] != 0 || b[8+530] != 4 {
		t.Error("Write:", short(b), e)
	}
	reads(t, b, api.OK, long)
}

func TestTexts(t *testing.T) { // P25.5: paths are any bytes, and any there may be
	var all []byte
	for x := range 255 {
		all = append(all, byte(x+1))
	}
	l := []Op{{Kind: 1, Path: string(all), To: "\x00\xff\xfe"}, {Kind: 2, Path: "\x00"}, {Kind: 3, To: strings.Repeat("\x00", 255), Bytes: make([]byte, 1024)}}
	written(t, l, bytesTold(l), api.OK)
	reads(t, bytesTold(l), api.OK, l...)
}

func TestWriteTooMany(t *testing.T) { // P25.2
	m := maker{r: rand.New(rand.NewSource(1)), right: true}
	l := m.ops(4097)
	written(t, l[:4096], bytesTold(l[:4096]), api.OK)
	written(t, l, nil, api.ErrLong)
	written(t, make([]Op, 4097), nil, api.ErrLong) // though none is right
	written(t, make([]Op, 4096), nil, api.ErrArg)
	written(t, make([]Op, 10000), nil, api.ErrLong)
	reads(t, bytesTold(l[:4096]), api.OK, l[:4096]...)
	// All that may be written may be read.
	for k := range 4096 {
		l[k] = Op{Kind: 1 + k%14, Path: strings.Repeat("p", 255), To: strings.Repeat("q", 255), Bytes: bytes.Repeat([]byte{byte(k)}, 1024)}
	}
	b, e := Write(l[:4096])
	is(t, "Write", e, api.OK)
	if len(b) != 12+4096*1555 {
		t.Error("Write:", len(b))
	}
	reads(t, b, api.OK, l[:4096]...)
}

func TestWriteWhatIsNotRight(t *testing.T) { // P25.2
	for _, o := range allWrongs() {
		written(t, []Op{o}, nil, api.ErrArg)
		written(t, []Op{full(), o}, nil, api.ErrArg)
		written(t, []Op{o, full()}, nil, api.ErrArg)
	}
	for kind := 1; kind <= 14; kind++ {
		l := edges(kind)
		written(t, l, bytesTold(l), api.OK)
		reads(t, bytesTold(l), api.OK, l...)
	}
}

func TestReadTooMuch(t *testing.T) { // P25.2
	const most = 1 << 23
	reads(t, make([]byte, most+1), api.ErrLong)
	reads(t, sealed(make([]byte, most-3)), api.ErrLong)
	reads(t, make([]byte, most), api.ErrTorn)
	reads(t, sealed(make([]byte, most-4)), api.ErrEntry)
	reads(t, append(bytesTold([]Op{full()}), make([]byte, most)...), api.ErrLong)
	// More operations than there may be, though not too many bytes.
	for _, n := range []int{4097, 5000, 65536, 300000} {
		reads(t, bytesTold(make([]Op, n)), api.ErrEntry)
		l := make([]Op, n)
		for k := range l {
			l[k].Kind = 14
		}
		reads(t, bytesTold(l), api.ErrEntry)
	}
}

func TestReadWhatIsTorn(t *testing.T) { // P25.2, P25.7, P1
	reads(t, nil, api.ErrTorn)
	for n := range 12 { // less than twelve, be the sum right or not
		reads(t, make([]byte, n), api.ErrTorn)
		if n < 8 {
			reads(t, sealed([]byte("HIST\x00\x00\x00\x00")[:n]), api.ErrTorn)
		}
	}
	b := bytesTold([]Op{full(), {Kind: 14}, full()})
	for n := range b {
		reads(t, b[:n], api.ErrTorn)
		if n > 0 {
			reads(t, b[n:], api.ErrTorn)
		}
	}
	reads(t, append(bytes.Clone(b), 0), api.ErrTorn)
	reads(t, append(bytes.Clone(b), b...), api.ErrTorn)
}

func TestFourBytesThatDiffer(t *testing.T) { // P25.7
	r := rand.New(rand.NewSource(7))
	m := maker{r: r, right: true}
	for _, l := range [][]Op{nil, {full()}, m.ops(1), m.ops(2), m.ops(5)} {
		b := bytesTold(l)
		reads(t, b, api.OK, l...)
		for k := range b {
			for x := 1; x < 256; x++ {
				c := bytes.Clone(b)
				c[k] ^= byte(x)
				reads(t, c, api.ErrTorn)
			}
		}
		for at := range len(b) - 3 {
			for range 40 {
				c := bytes.Clone(b)
				r.Read(c[at : at+4])
				if !bytes.Equal(b, c) {
					reads(t, c, api.ErrTorn)
				}
			}
		}
	}
}

func TestReadWhatIsNone(t *testing.T) { // P25.2
	o := opTold(full())
	longer := func(n int) []byte { return opTold(Op{Kind: 4, Bytes: make([]byte, n)}) }
	kind := func(n int) []byte { return opTold(Op{Kind: n}) }
	l := [][]byte{
		{}, {0}, []byte("HIST"), []byte("HIST\x00\x00\x00"), make([]byte, 8), make([]byte, 9), make([]byte, 100),
		[]byte("HISS\x00\x00\x00\x00"), []byte("hist\x00\x00\x00\x00"), []byte("TSIH\x00\x00\x00\x00"), []byte("\x00HIST\x00\x00\x00\x00"), []byte("IST\x00\x00\x00\x00\x00"),
		append(headTold(0), 0), append(headTold(0), o...), append(headTold(1), append(o, 0)...), append(headTold(1), append(o, o...)...),
		headTold(1), headTold(2), append(headTold(2), o...), append(headTold(3), append(o, o...)...),
		headTold(math.MaxUint32), append(headTold(math.MaxUint32), o...), append(headTold(1<<31), o...), append(headTold(1<<24+1), o...), append(headTold(256+1), o...), append(headTold(4097), o...),
		append(headTold(1), kind(0)...), append(headTold(1), kind(15)...), append(headTold(1), kind(16)...), append(headTold(1), kind(255)...), append(headTold(1), kind(128+1)...),
		append(headTold(1), longer(1025)...), append(headTold(1), longer(2048)...), append(headTold(1), longer(65535)...),
	}
	for _, b := range l {
		if len(b) < 8 {
			reads(t, sealed(b), api.ErrTorn)
			continue
		}
		reads(t, sealed(b), api.ErrEntry)
	}
	// What ends too soon, wherever it ends; and each with other first bytes.
	b := append(headTold(2), append(o, o...)...)
	for n := 8; n < len(b); n++ {
		reads(t, sealed(b[:n]), api.ErrEntry)
	}
	for k := range 4 {
		for x := 1; x < 256; x++ {
			c := bytes.Clone(b)
			c[k] ^= byte(x)
			reads(t, sealed(c), api.ErrEntry)
		}
	}
	// Just what may be is read.
	for n := 1; n <= 14; n++ {
		reads(t, sealed(headTold(1), kind(n)), api.OK, Op{Kind: n})
	}
	reads(t, sealed(headTold(1), longer(1024)), api.OK, Op{Kind: 4, Bytes: make([]byte, 1024)})
}

func TestWriteAndReadByChance(t *testing.T) { // P25.2, P25.5
	met := map[api.Errno]int{}
	for seed := range int64(400) {
		m := maker{r: rand.New(rand.NewSource(seed)), right: seed%4 > 0}
		l := m.ops(m.r.Intn(12))
		want, e := writeTold(l)
		written(t, l, want, e)
		met[e]++
		if e == api.OK {
			reads(t, want, api.OK, l...)
		}
	}
	if met[api.OK] < 200 || met[api.ErrArg] < 3 {
		t.Error("met:", met)
	}
}

// hurt are bytes with something of them changed.
func hurt(r *rand.Rand, b []byte) []byte {
	c := bytes.Clone(b)
	for range 1 + r.Intn(2) {
		if len(c) == 0 {
			return c
		}
		at := r.Intn(len(c))
		switch r.Intn(5) {
		case 0:
			c[at] = byte(r.Intn(256))
		case 1:
			c[at] += byte(r.Intn(3) - 1)
		case 2:
			c = append(c[:at], c[min(len(c), at+1+r.Intn(3)):]...)
		case 3:
			c = append(c[:at:at], append([]byte{byte(r.Intn(3))}, c[at:]...)...)
		case 4:
			c = c[:at]
		}
	}
	return c
}

func TestReadByChance(t *testing.T) { // P25.2, P25.5, P1
	met := map[api.Errno]int{}
	for seed := range int64(30000) {
		r := rand.New(rand.NewSource(seed))
		var l []Op
		for range r.Intn(4) {
			l = append(l, Op{Kind: 1 + r.Intn(14), Path: strings.Repeat("p", r.Intn(4)), To: strings.Repeat("q", r.Intn(3)), Handle: r.Intn(3) - 1, N: r.Intn(9), Off: r.Int63(), Bytes: make([]byte, r.Intn(5))})
		}
		b := bytesTold(l)
		b = hurt(r, b[:len(b)-4])
		if r.Intn(20) > 0 {
			b = sealed(b)
		}
		want, e := readTold(b)
		reads(t, b, e, want...)
		met[e]++
		// What is read is written as the same bytes.
		if got, e := Read(b); e == api.OK {
			written(t, got, b, api.OK)
		}
	}
	if met[api.OK] < 3000 || met[api.ErrEntry] < 3000 || met[api.ErrTorn] < 300 {
		t.Error("met:", met)
	}
}

func TestBytesAreNew(t *testing.T) { // P25.2: what is handed in stays, and no part of it is in what is answered
	l := []Op{full(), {Kind: 4, Bytes: []byte("hello")}, full()}
	b, e := Write(l)
	is(t, "Write", e, api.OK)
	l[1].Bytes[0] = 'X'
	l[0].Kind = 5
	reads(t, b, api.OK, full(), Op{Kind: 4, Bytes: []byte("hello")}, full())
	was := bytes.Clone(b)
	got, e := Read(b)
	is(t, "Read", e, api.OK)
	for k := range got {
		// What is put behind one's bytes is not in another one's, nor in what was read.
		got[k].Bytes = append(got[k].Bytes, 77, 77, 77)
		got[k].Bytes[0] = 78
	}
	if !bytes.Equal(b, was) {
		t.Error("what was read is changed:", b)
	}
	again, e := Read(b)
	is(t, "Read", e, api.OK)
	clear(b)
	sameOps(t, "Read", again, []Op{full(), {Kind: 4, Bytes: []byte("hello")}, full()})
	l = []Op{full()}
	b, _ = Write(l)
	c, _ := Write(l)
	clear(b)
	if !bytes.Equal(c, bytesTold(l)) {
		t.Error("two answers share something")
	}
}
