package squeeze

import (
	"bytes"
	"math/rand"
	"slices"
	"strings"
	"testing"

	"cuneiform/api"
)

// squeezed is what bytes are squeezed to, which must be this; what else the chapter says of it must hold, too.
func squeezed(t *testing.T, b, want []byte) []byte {
	t.Helper()
	kept := bytes.Clone(b)
	got, e := Squeeze(b)
	if e != api.OK || !same(got, want) {
		t.Fatalf("Squeeze of %s: %s, %d, not %s", short(b), short(got), e, short(want))
	}
	if len(got) > len(b)+len(b)/4+1 { // P19.5
		t.Fatalf("%d bytes are squeezed to %d", len(b), len(got))
	}
	opened(t, got, len(b), b, api.OK) // P19.4
	clear(got)
	if !same(b, kept) {
		t.Fatal("Squeeze changed the bytes that it was handed, or answers their memory")
	}
	return want
}

// opened fails the test, if Open answers something else than this.
func opened(t *testing.T, b []byte, most int, want []byte, e api.Errno) {
	t.Helper()
	kept := bytes.Clone(b)
	got, err := Open(b, most)
	if err != e || !same(got, want) {
		t.Fatalf("Open of %s, at most %d: %s, %d, not %s, %d", short(b), most, short(got), err, short(want), e)
	}
	clear(got)
	if !same(b, kept) {
		t.Fatal("Open changed the bytes that it was handed, or answers their memory")
	}
}

// unlike are n bytes, none of them one of these: no three that stand together stand there twice.
func unlike(n int, not string) []byte {
	r := rand.New(rand.NewSource(int64(n)))
	met := map[[3]byte]bool{}
	var b []byte
	for len(b) < n {
		x := byte(r.Intn(256))
		if strings.IndexByte(not, x) >= 0 {
			continue
		}
		if k := len(b); k >= 2 {
			key := [3]byte{b[k-2], b[k-1], x}
			if met[key] {
				continue
			}
			met[key] = true
		}
		b = append(b, x)
	}
	return b
}

// runs are bytes that stand for themselves, in runs.
func runs(b []byte) []byte {
	var l []byte
	for ; len(b) > 128; b = b[128:] {
		l = append(append(l, 127), b[:128]...)
	}
	if len(b) > 0 {
		l = append(append(l, byte(len(b)-1)), b...)
	}
	return l
}

func TestExamples(t *testing.T) { // P19.1, P19.2
	squeezed(t, bytes.Repeat([]byte{7}, 9), []byte{0, 7, 133, 1, 0})
	squeezed(t, []byte("abababababx"), []byte("\x01ab\x85\x02\x00\x00x"))
	opened(t, []byte{0, 7, 133, 1, 0}, 9, bytes.Repeat([]byte{7}, 9), api.OK)
}

func TestNothing(t *testing.T) { // P19.1, P19.2
	for _, b := range [][]byte{nil, {}} {
		squeezed(t, b, nil)
		for _, most := range []int{0, 1, 1 << 20} {
			opened(t, b, most, nil, api.OK)
		}
	}
}

func TestSqueezeOfTooMany(t *testing.T) { // P19.1
	for _, n := range []int{1<<16 + 1, 1<<16 + 2, 1 << 17, 1 << 20, 1 << 24} {
		for _, b := range [][]byte{make([]byte, n), bytes.Repeat([]byte("abcdefg"), n)[:n]} {
			if got, e := Squeeze(b); len(got) != 0 || e != api.ErrLong {
				t.Errorf("Squeeze of %d bytes: %s, %d", n, short(got), e)
			}
		}
	}
	squeezed(t, make([]byte, 1<<16), squeezeTold(make([]byte, 1<<16)))
	squeezed(t, make([]byte, 1<<16-1), squeezeTold(make([]byte, 1<<16-1)))
}

func TestSqueezeOfMany(t *testing.T) { // P19.1
	for _, b := range [][]byte{unlike(1<<16, ""), some(rand.New(rand.NewSource(1)), 1<<16, 256), some(rand.New(rand.NewSource(2)), 1<<16, 2), slow(1 << 16)} {
		squeezed(t, b, squeezeTold(b))
	}
}

// slow are bytes in which many places look alike for a long while.
func slow(n int) []byte {
	r := rand.New(rand.NewSource(3))
	var b []byte
	for len(b) < n {
		b = append(b, make([]byte, 40+r.Intn(100))...)
		b = append(b, byte(r.Intn(256)))
	}
	return b[:n]
}

func TestRuns(t *testing.T) { // P19.1
	for _, n := range []int{1, 2, 3, 127, 128, 129, 130, 255, 256, 257, 383, 384, 385, 1000} {
		b := unlike(n, "")
		squeezed(t, b, runs(b))
		// A run ends where a copy begins, full or not, and another one begins behind it.
		b = unlike(n, "xyz")
		ended := slices.Concat([]byte("xyz"), b, []byte("xyz"), []byte("zx"))
		copied := []byte{128, byte(n + 3), byte((n + 3) >> 8)}
		squeezed(t, ended, slices.Concat(runs(ended[:n+3]), copied, []byte("\x01zx")))
	}
}

func TestCopyLengths(t *testing.T) { // P19.1
	squeezed(t, []byte("aa"), []byte("\x01aa"))
	squeezed(t, []byte("aaa"), []byte("\x02aaa"))
	squeezed(t, []byte("ab-ab"), []byte("\x04ab-ab"))
	squeezed(t, []byte("ab-abb-aba"), []byte("\x04ab-ab\x81\x04\x00\x00a"))
	for _, n := range []int{3, 4, 5, 100, 128, 129, 130} {
		b := unlike(n, "-+")
		all := slices.Concat(b, []byte("-"), b, []byte("+"))
		squeezed(t, all, append(runs(all[:n+1]), byte(125+n), byte(n+1), 0, 0, '+'))
	}
	// What a copy of 130 leaves is looked at anew: less than three bytes of it stand for themselves.
	for _, c := range []struct {
		n    int // how many there are behind the first one
		want []byte
	}{
		{3, []byte{128, 1, 0}},
		{4, []byte{129, 1, 0}},
		{129, []byte{254, 1, 0}},
		{130, []byte{255, 1, 0}},
		{131, []byte{255, 1, 0, 0, 5}},
		{132, []byte{255, 1, 0, 1, 5, 5}},
		{133, []byte{255, 1, 0, 128, 1, 0}},
		{260, []byte{255, 1, 0, 255, 1, 0}},
		{262, []byte{255, 1, 0, 255, 1, 0, 1, 5, 5}},
	} {
		squeezed(t, bytes.Repeat([]byte{5}, c.n+1), append([]byte{0, 5}, c.want...))
	}
}

func TestDistances(t *testing.T) { // P19.1
	for _, far := range []int{3, 4, 255, 256, 257, 1000, 4095, 4096, 4097, 4098, 9000} {
		b := slices.Concat([]byte("xyz"), unlike(far-3, "xyz"), []byte("xyz"))
		want := runs(b)
		if far <= 4096 {
			want = append(runs(b[:far]), 128, byte(far), byte(far>>8))
		}
		squeezed(t, b, want)
	}
	// A longer copy that is out of reach leaves a shorter one that is nearer.
	for _, far := range []int{4095, 4096, 4097} {
		b := slices.Concat([]byte("abcd"), unlike(far-14, "abcd1234567"), []byte("abc1234567abcd+"))
		want := append(runs(b[:far-10]), 128, byte(far-10), byte((far-10)>>8))
		want = append(want, "\x061234567"...)
		if far <= 4096 {
			want = append(want, 129, byte(far), byte(far>>8), 0, '+')
		} else {
			want = append(want, 128, 10, 0, 1, 'd', '+')
		}
		squeezed(t, b, want)
	}
}

func TestWhichCopy(t *testing.T) { // P19.1
	for _, c := range []struct {
		what, of, want string
	}{
		{"of two as long the nearer one", "abc1abc2abc3", "\x03abc1\x80\x04\x00\x002\x80\x04\x00\x003"},
		{"the longer one, which is farther", "abcd1abc2abcd", "\x04abcd1\x80\x05\x00\x002\x81\x09\x00"},
		{"the longer one, which is nearer", "1abc2abcd3abcd", "\x041abc2\x80\x04\x00\x01d3\x81\x05\x00"},
		{"the one that begins first, though a longer one begins within it", "abcxbcdefyabcdef", "\x09abcxbcdefy\x80\x0a\x00\x80\x07\x00"},
		{"the nearest one of those that are long enough", "aaaaabaaaa", "\x00a\x81\x01\x00\x00b\x81\x05\x00"},
	} {
		t.Run(c.what, func(t *testing.T) {
			squeezed(t, []byte(c.of), []byte(c.want))
		})
	}
}

// each hands over each text of at most n bytes of these.
func each(of string, n int, told func(b []byte)) {
	var add func(b []byte)
	add = func(b []byte) {
		told(b)
		if len(b) < n {
			for k := range len(of) {
				add(append(b[:len(b):len(b)], of[k]))
			}
		}
	}
	add(nil)
}

// some are n bytes, below a number.
func some(r *rand.Rand, n, below int) []byte {
	b := make([]byte, n)
	for i := range b {
		b[i] = byte(r.Intn(below))
	}
	return b
}

// patched are n bytes, many of them taken from what stands ahead.
func patched(r *rand.Rand, n, below int) []byte {
	b := some(r, 1, below)
	for len(b) < n {
		if r.Intn(2) == 0 {
			b = append(b, some(r, 1+r.Intn(6), below)...)
			continue
		}
		far := 1 + r.Intn(len(b))
		for range 1 + r.Intn(1+r.Intn(160)) {
			b = append(b, b[len(b)-far])
		}
	}
	return b[:n]
}

func TestSqueezeOfShortTexts(t *testing.T) { // P19.1, P19.4, P19.5
	told := func(b []byte) { squeezed(t, b, squeezeTold(b)) }
	each("a", 300, told)
	each("ab", 13, told)
	each("abc", 8, told)
	each("abcd", 6, told)
}

func TestSqueezeOfTextsByChance(t *testing.T) { // P19.1, P19.4, P19.5
	r := rand.New(rand.NewSource(4))
	for range 1500 {
		n, below := r.Intn(1+r.Intn(1200)), 1+r.Intn(1+r.Intn(256))
		for _, b := range [][]byte{some(r, n, below), patched(r, max(n, 1), below)} {
			squeezed(t, b, squeezeTold(b))
		}
	}
	for range 12 {
		b := patched(r, 5000+r.Intn(6000), 1+r.Intn(256))
		squeezed(t, b, squeezeTold(b))
	}
}

func TestTheMostThatSqueezedBytesAre(t *testing.T) { // P19.5
	// A byte that stands for itself and a copy of three, again and again: there is nothing that takes more.
	b := []byte("abc1")
	for k := range 60 {
		b = append(b, "abc"...)
		b = append(b, byte(100+k))
	}
	n := len(squeezed(t, b, squeezeTold(b)))
	if n != 5+60*5 {
		t.Errorf("%d bytes are squeezed to %d", len(b), n)
	}
	for n := range 400 {
		b := unlike(n, "")
		if got, e := Squeeze(b); e != api.OK || len(got) > n+n/4+1 {
			t.Errorf("%d bytes are squeezed to %d, %d", n, len(got), e)
		}
	}
}
