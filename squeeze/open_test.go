package squeeze

import (
	"bytes"
	"math"
	"math/rand"
	"slices"
	"testing"

	"cuneiform/api"
)

func TestOpenOfItems(t *testing.T) { // P19.2
	long := unlike(128, "")
	for _, c := range []struct {
		of   []byte
		want string
	}{
		{[]byte{0, 0}, "\x00"},
		{[]byte{2, 1, 2, 3}, "\x01\x02\x03"},
		{[]byte("\x00a\x01bc\x00d"), "abcd"},
		{slices.Concat([]byte{127}, long), string(long)},
		{[]byte("\x02abc\x80\x03\x00"), "abcabc"},
		{[]byte("\x02abc\x80\x01\x00"), "abcccc"},
		{[]byte("\x02abc\x82\x02\x00"), "abcbcbcb"},
		{[]byte("\x02abc\x80\x03\x00\x80\x06\x00"), "abcabcabc"},
		{[]byte("\x00a\xff\x01\x00"), string(bytes.Repeat([]byte("a"), 131))},
		// Squeeze would take other items: runs side by side, a copy that is farther, a shorter one.
		{[]byte("\x00a\x00b\x00a\x80\x02\x00\x80\x02\x00\x80\x06\x00"), "abababababab"},
	} {
		for _, most := range []int{len(c.want), len(c.want) + 1, 1 << 20} {
			opened(t, c.of, most, []byte(c.want), api.OK)
		}
		for _, most := range []int{0, len(c.want) - 1} {
			opened(t, c.of, most, nil, api.ErrLong)
		}
	}
}

func TestOpenOfWhatMayNotBeMost(t *testing.T) { // P19.2
	for _, most := range []int{-1, -2, math.MinInt, 1<<20 + 1, 1 << 21, math.MaxInt} {
		for _, b := range [][]byte{nil, {0, 1}, {5}, {128, 0, 0}, {0, 1, 255, 1, 0}} {
			opened(t, b, most, nil, api.ErrArg)
		}
	}
}

func TestOpenOfWhatIsNoItem(t *testing.T) { // P19.2
	for _, s := range []string{
		"\x00", "\x01a", "\x7f", "\x05abcde", // a run that ends too soon
		"\x80", "\x80\x01", "\x00a\x80", "\x00a\x80\x01", "\x00a\xff\x01", // a copy that does
		"\x80\x00\x00", "\x80\x01\x00", "\xff\x01\x00", "\x80\xff\xff", // a copy of what is not there
		"\x00a\x80\x00\x00", "\x00a\x80\x02\x00", "\x00a\x80\x00\x01", "\x00a\x80\x01\x01", "\x02abc\x80\x04\x00",
		"\x02abc\x80\x03\x00\x80\x07\x00",
	} {
		// It is no item, be there room for it or not.
		for _, most := range []int{6, 7, 100, 1 << 20} {
			opened(t, []byte(s), most, nil, api.ErrEntry)
		}
	}
	for _, s := range []string{"\x00", "\x7fabc", "\x80", "\xff\x01", "\x80\x00\x00", "\xff\x01\x00"} {
		opened(t, []byte(s), 0, nil, api.ErrEntry)
	}
	opened(t, []byte("\x00a\x80\x02\x00"), 1, nil, api.ErrEntry)
	opened(t, []byte("\x00a\x80\x01"), 1, nil, api.ErrEntry)
}

func TestWhichErrorOfOpen(t *testing.T) { // P19.2
	// The item that comes first has its error, whatever is behind it.
	opened(t, []byte("\x02abc\x80\x00\x00"), 2, nil, api.ErrLong)
	opened(t, []byte("\x02abc\x05ab"), 2, nil, api.ErrLong)
	opened(t, []byte("\x02abc\x80\x01\x00\x80"), 5, nil, api.ErrLong)
	opened(t, []byte("\x02abc\x80\x01\x00\x80"), 6, nil, api.ErrEntry)
	opened(t, []byte("\x02abc\x80\x04\x00\x02abc"), 4, nil, api.ErrEntry)
}

func TestOpenOfFarCopies(t *testing.T) { // P19.2
	// Open takes any distance that two bytes can tell, not just those that Squeeze looks for.
	r := rand.New(rand.NewSource(5))
	b := some(r, 70000, 256)
	for _, far := range []int{4096, 4097, 65280, 65534, 65535} {
		of := append(runs(b), 255, byte(far), byte(far>>8))
		from := len(b) - far
		opened(t, of, 1<<20, slices.Concat(b, b[from:from+130]), api.OK)
		// As many as there are, and one more.
		head := b[:far]
		opened(t, append(runs(head), 255, byte(far), byte(far>>8)), 1<<20, slices.Concat(head, b[:130]), api.OK)
		opened(t, append(runs(b[:far-1]), 255, byte(far), byte(far>>8)), 1<<20, nil, api.ErrEntry)
	}
}

func TestOpenOfTheMost(t *testing.T) { // P19.2
	of := []byte{0, 7}
	n := 1
	for ; n+130 <= 1<<20; n += 130 {
		of = append(of, 255, 1, 0)
	}
	of = append(of, byte(1<<20-n-1))
	of = append(of, bytes.Repeat([]byte{7}, 1<<20-n)...)
	opened(t, of, 1<<20, bytes.Repeat([]byte{7}, 1<<20), api.OK)
	opened(t, of, 1<<20-1, nil, api.ErrLong)
	opened(t, append(of, 0, 7), 1<<20, nil, api.ErrLong)
	opened(t, append(of, 255, 1, 0), 1<<20, nil, api.ErrLong)
	opened(t, append(of, 0), 1<<20, nil, api.ErrEntry)
}

func TestOpenOfShortBytes(t *testing.T) { // P19.2, P1
	each("\x00\x01\x02\x7f\x80\x81\xff", 5, func(b []byte) {
		for _, most := range []int{0, 1, 2, 4, 5, 131, 1 << 20} {
			want, e := openTold(b, most)
			opened(t, b, most, want, e)
		}
	})
}

// itemsByChance are items, most of which can be opened, and now and then what is none.
func itemsByChance(r *rand.Rand) []byte {
	var b []byte
	out := 0
	for range r.Intn(12) {
		switch kind := r.Intn(40); {
		case kind == 0:
			b = append(b, some(r, 1+r.Intn(4), 256)...)
		case kind == 1:
			b = append(b, 128, byte(out+1), byte((out+1)>>8))
		case kind < 20 && out > 0:
			c, far := 128+r.Intn(128), 1+r.Intn(min(out, 65535))
			b = append(b, byte(c), byte(far), byte(far>>8))
			out += c - 125
		default:
			c := r.Intn(1 + r.Intn(128))
			b = append(append(b, byte(c)), some(r, c+1, 256)...)
			out += c + 1
		}
	}
	return b
}

func TestOpenOfItemsByChance(t *testing.T) { // P19.2, P1
	r := rand.New(rand.NewSource(6))
	met := map[api.Errno]int{}
	for range 20000 {
		b := itemsByChance(r)
		most := r.Intn(1 + r.Intn(2000))
		if r.Intn(2) == 0 {
			most = 1 << 20
		}
		want, e := openTold(b, most)
		opened(t, b, most, want, e)
		met[e]++
		if e == api.OK && len(want) > 0 { // just so many, and one less
			opened(t, b, len(want), want, api.OK)
			opened(t, b, len(want)-1, nil, api.ErrLong)
		}
	}
	for _, e := range []api.Errno{api.OK, api.ErrEntry, api.ErrLong} {
		if met[e] < 500 {
			t.Errorf("the answer %d was met %d times", e, met[e])
		}
	}
}

func TestOpenOfBytesByChance(t *testing.T) { // P19.2, P1
	r := rand.New(rand.NewSource(7))
	for range 20000 {
		b := some(r, r.Intn(40), 256)
		if len(b) > 0 {
			b[0] %= 8
		}
		want, e := openTold(b, 1<<20)
		opened(t, b, 1<<20, want, e)
	}
}

func TestBeginnings(t *testing.T) { // P19.6
	r := rand.New(rand.NewSource(8))
	for range 300 {
		b := patched(r, 1+r.Intn(600), 1+r.Intn(8))
		s, e := Squeeze(b)
		l, whole := thingsTold(s)
		if e != api.OK || !whole {
			t.Fatalf("Squeeze of %s: %s, %d", short(b), short(s), e)
		}
		opened(t, s[:0], len(b), nil, api.OK)
		n, from := 0, 0
		for _, x := range l {
			for end := from + 1; end < x.end; end++ { // what ends within an item
				opened(t, s[:end], len(b), nil, api.ErrEntry)
			}
			n += x.count
			from = x.end
			opened(t, s[:x.end], len(b), b[:n], api.OK)
		}
		if n != len(b) {
			t.Fatalf("of %d bytes %d come out", len(b), n)
		}
	}
}
