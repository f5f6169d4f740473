package pack

import (
	"bytes"
	"fmt"
	"math/rand"
	"slices"
	"strings"
	"testing"

	"cuneiform/api"
	"cuneiform/squeeze"
)

// lists fails the test, if List answers something else.
func lists(t *testing.T, b []byte, e api.Errno, want ...Item) {
	t.Helper()
	if l, got := List(b); !slices.Equal(l, want) || got != e {
		t.Errorf("List of %s: %v, %d, not %v, %d", short(b), l, got, want, e)
	}
}

// short is a text of bytes, or of the first ones of many.
func short(b []byte) string {
	if len(b) > 200 {
		return fmt.Sprintf("%q.. (%d bytes)", b[:200], len(b))
	}
	return fmt.Sprintf("%q", b)
}

// full is an archive with all that there can be.
func full() archive {
	return begun().dir("/d").file("/d/a", 1027, stretched(0, strings.Repeat("ab", 512)), stretched(1024, "xyz")).name("/b", 1).dir("/d/e").file("/c", 0).name("/d/e/f", 4)
}

func TestList(t *testing.T) { // P20.2
	lists(t, begun().end(), api.OK)
	lists(t, full().end(), api.OK, Item{1, "/d", 0, 0}, Item{2, "/d/a", 1027, 0}, Item{3, "/b", 0, 1}, Item{1, "/d/e", 0, 0}, Item{2, "/c", 0, 0}, Item{3, "/d/e/f", 0, 4})
	// Entries need not stand as Walk tells them, if only each parent is ahead.
	lists(t, begun().dir("/d").dir("/a").dir("/d/b").dir("/a/b").dir("/d/a").end(), api.OK, Item{1, "/d", 0, 0}, Item{1, "/a", 0, 0}, Item{1, "/d/b", 0, 0}, Item{1, "/a/b", 0, 0}, Item{1, "/d/a", 0, 0})
	lists(t, begun().file("/a", 1<<31-1).name("/b", 0).name("/c", 0).end(), api.OK, Item{2, "/a", 1<<31 - 1, 0}, Item{3, "/b", 0, 0}, Item{3, "/c", 0, 0})
}

func TestListOfTooMuch(t *testing.T) { // P20.2
	lists(t, make([]byte, 1<<18+1), api.ErrLong)
	lists(t, make([]byte, 1<<18), api.ErrTorn)
	lists(t, sealed(make([]byte, 1<<18-3)), api.ErrLong)
	lists(t, sealed(make([]byte, 1<<18-4)), api.ErrEntry)
	lists(t, append(full().end(), make([]byte, 1<<18)...), api.ErrLong)
}

func TestListOfWhatIsTorn(t *testing.T) { // P20.2, P20.5, P1
	lists(t, nil, api.ErrTorn)
	for n := range 20 {
		lists(t, make([]byte, n), api.ErrTorn)
	}
	for n := range 5 { // less than nine, be the sum right or not
		lists(t, sealed([]byte("CUNA")[:n]), api.ErrTorn)
	}
	b := full().end()
	for n := range b {
		lists(t, b[:n], api.ErrTorn)
	}
	lists(t, append(bytes.Clone(b), 0), api.ErrTorn)
	for k := range b {
		for _, x := range []byte{1, 2, 128, 255} {
			c := bytes.Clone(b)
			c[k] ^= x
			lists(t, c, api.ErrTorn)
		}
	}
	r := rand.New(rand.NewSource(1))
	for range 20000 {
		c := bytes.Clone(b)
		at := r.Intn(len(c) - 3)
		r.Read(c[at : at+4])
		if !bytes.Equal(b, c) {
			lists(t, c, api.ErrTorn)
		}
	}
}

// wrong are archives that are not right, each for what it is told to be.
func wrong() map[string][]byte {
	ab := strings.Repeat("ab", 512)
	long := strings.Repeat("/abcdefghijklm", 16)
	deep := begun()
	for k := range 16 {
		deep = deep.dir(long[:14*(k+1)])
	}
	tight := stretched(0, ab) // "ab", and copies
	return map[string][]byte{
		"no mark":                          append(begun()[:3], 66, 0),
		"no bytes of an archive":           make([]byte, 5),
		"no end":                           begun().dir("/d"),
		"something behind the end":         append(begun().dir("/d"), 0, 0),
		"an entry behind the end":          append(append(begun(), 0), begun().dir("/d").end()[4:]...),
		"a Kind that is none":              append(begun().head(4, "/a"), 0),
		"a Kind that is far from one":      append(begun().head(255, "/a"), 0),
		"no path":                          append(begun().dir(""), 0),
		"a path that ends too soon":        append(begun(), 1, 9, 0, 47, 97),
		"a length that ends too soon":      append(begun(), 1, 0),
		"the root":                         append(begun().dir("/"), 0),
		"a path that does not begin so":    append(begun().dir("a"), 0),
		"a path with more than it needs":   append(begun().dir("//a"), 0),
		"a path with more at its end":      append(begun().dir("/a/"), 0),
		"a path with more within it":       append(begun().dir("/a").dir("/a//b"), 0),
		"a name that is none":              append(begun().dir("/."), 0),
		"another one":                      append(begun().dir("/.."), 0),
		"a name that is too long":          append(begun().dir("/abcdefghijklmn"), 0),
		"a name with a byte 0":             append(begun().dir("/a\x00"), 0),
		"a path of too many names":         append(deep.dir(long+"/x"), 0),
		"a path that is too long":          append(deep.dir(long+strings.Repeat("/", 40)), 0),
		"one path twice":                   append(begun().dir("/a").dir("/a"), 0),
		"one path of two Kinds":            append(begun().dir("/a").file("/a", 0), 0),
		"one path of another name":         append(begun().file("/a", 0).name("/a", 0), 0),
		"one path of other names":          append(begun().file("/a", 0).name("/b", 0).name("/b", 0), 0),
		"no parent":                        append(begun().dir("/a/b"), 0),
		"a parent behind it":               append(begun().dir("/a/b").dir("/a"), 0),
		"a parent that is itself":          append(begun().dir("/a").dir("/b/b"), 0),
		"a parent that is a file":          append(begun().file("/a", 0).dir("/a/b"), 0),
		"a parent that is another name":    append(begun().file("/a", 0).name("/b", 0).dir("/b/c"), 0),
		"a grandparent alone":              append(begun().dir("/a").dir("/a/b/c"), 0),
		"a size that is too great":         append(begun().file("/a", 1<<31), 0),
		"a size that is far too great":     append(begun().file("/a", 1<<63+1), 0),
		"the greatest size":                append(begun().file("/a", 1<<64-1), 0),
		"a size that ends too soon":        append(begun().head(2, "/a"), 0, 0, 0, 0, 0),
		"a file without an end":            begun().file("/a", 0)[:16],
		"stretches with another end":       append(begun().file("/a", 0)[:15], 2, 0),
		"a stretch that ends too soon":     begun().file("/a", 3, stretched(0, "abc"))[:29],
		"a stretch of no bytes":            append(begun().file("/a", 0, piece{0, nil}), 0),
		"a stretch of no bytes at the end": append(begun().file("/a", 1024, tight, piece{1024, nil}), 0),
		"a stretch of bytes 0":             append(begun().file("/a", 3, stretched(0, "\x00\x00\x00")), 0),
		"a whole stretch of bytes 0":       append(begun().file("/a", 1024, stretched(0, strings.Repeat("\x00", 1024))), 0),
		"a stretch of too many bytes":      append(begun().file("/a", 2048, stretched(0, ab+"a")), 0),
		"a stretch of no items":            append(begun().file("/a", 3, piece{0, []byte{2, 97, 98}}), 0),
		"a stretch of a copy of nothing":   append(begun().file("/a", 3, piece{0, []byte{128, 1, 0}}), 0),
		"a place that is no multiple":      append(begun().file("/a", 2048, piece{1023, tight.squeezed}), 0),
		"a place within":                   append(begun().file("/a", 2048, piece{512, tight.squeezed}), 0),
		"one place twice":                  append(begun().file("/a", 2048, tight, tight), 0),
		"places that fall":                 append(begun().file("/a", 3072, piece{1024, tight.squeezed}, piece{0, tight.squeezed}), 0),
		"a stretch behind the size":        append(begun().file("/a", 1024, piece{1024, tight.squeezed}), 0),
		"a stretch over the size":          append(begun().file("/a", 1500, piece{1024, tight.squeezed}), 0),
		"a stretch over the size by one":   append(begun().file("/a", 1023, tight), 0),
		"a stretch of an empty file":       append(begun().file("/a", 0, stretched(0, "a")), 0),
		"a stretch far behind":             append(begun().file("/a", 1<<31-1, piece{1 << 31, tight.squeezed}), 0),
		"a stretch at the farthest":        append(begun().file("/a", 1<<31-1, piece{1<<64 - 1024, tight.squeezed}), 0),
		"a place that has a sign":          append(begun().file("/a", 1<<31-1, piece{1 << 63, tight.squeezed}), 0),
		"a short stretch within":           append(begun().file("/a", 2048, stretched(0, ab[:1023]), piece{1024, tight.squeezed}), 0),
		"a short stretch ahead of a hole":  append(begun().file("/a", 1025, stretched(0, "abc")), 0),
		"a short stretch ahead of the end": append(begun().file("/a", 4, stretched(0, "abc")), 0),
		"another name of itself":           append(begun().name("/a", 0), 0),
		"another name of what is behind":   append(begun().name("/a", 1).file("/b", 0), 0),
		"another name of nothing":          append(begun().file("/a", 0).name("/b", 65535), 0),
		"another name of a directory":      append(begun().dir("/a").name("/b", 0), 0),
		"another name of another name":     append(begun().file("/a", 0).name("/b", 0).name("/c", 1), 0),
		"another name that ends too soon":  begun().file("/a", 0).name("/b", 0)[:21],
	}
}

func TestListOfWhatIsNotRight(t *testing.T) { // P20.2
	for what, b := range wrong() {
		if l, e := List(sealed(b)); len(l) != 0 || e != api.ErrEntry {
			t.Errorf("%s: %v, %d", what, l, e)
		}
		if _, e := listTold(sealed(b)); e != api.ErrEntry {
			t.Error(what, "is right, as it is told here:", e)
		}
	}
}

func TestListOfOtherSqueezedBytes(t *testing.T) { // P20.2: just what Squeeze makes of the bytes may stand there
	ab := strings.Repeat("ab", 512)
	text := noise(rand.New(rand.NewSource(5)), 300)
	for _, c := range []struct{ text, other string }{
		{"777777777", "\x08777777777"},
		{"777777777", "\x017\x37\x84\x01\x00"},
		{"777777777", "\x007\x84\x01\x00\x007"},
		{"abab", "\x01ab\x01ab"},
		{"abababab", "\x01ab\x80\x02\x00\x80\x02\x00"},
		{"abababab", "\x01ab\x81\x02\x00\x01ab"},
		{"abcabcabc", "\x02abc\x80\x03\x00\x80\x06\x00"},
		{"abc", "\x00a\x01bc"},
		{text, "\x63" + text[:100] + "\x7f" + text[100:228] + "\x47" + text[228:]},
		{ab, "\x7f" + ab[:128] + strings.Repeat("\xff\x02\x00", 6) + "\xf1\x02\x00"},
	} {
		if b, e := squeeze.Open([]byte(c.other), 1024); string(b) != c.text || e != api.OK {
			t.Fatalf("%q is opened as %q, %d", c.other, b, e)
		}
		size := uint64(len(c.text))
		lists(t, begun().file("/a", size, stretched(0, c.text)).end(), api.OK, Item{2, "/a", int64(size), 0})
		lists(t, begun().file("/a", size, piece{0, []byte(c.other)}).end(), api.ErrEntry)
	}
}

func TestListOfWhatIsNearlyWrong(t *testing.T) { // P20.2
	ab := strings.Repeat("ab", 512)
	long := strings.Repeat("/abcdefghijklm", 16)
	deep := begun()
	for k := range 16 {
		deep = deep.dir(long[:14*(k+1)])
	}
	for what, a := range map[string]archive{
		"the deepest and longest paths": deep,
		"odd names":                     begun().dir("/...").dir("/ ").dir("/\xff").dir("/.../.a").dir("/\x01\n"),
		"one name in two directories":   begun().dir("/a").dir("/a/a").dir("/a/a/a").dir("/b").dir("/b/a"),
		"a hole at the end":             begun().file("/a", 1<<31-1, stretched(0, ab)),
		"a hole ahead":                  begun().file("/a", 1<<30+3, stretched(1<<30, "abc")),
		"the farthest stretch":          begun().file("/a", 1<<31-1, stretched(1<<31-1024, ab[:1023])),
		"one byte":                      begun().file("/a", 1, stretched(0, "a")),
		"one byte of 1024":              begun().file("/a", 1024, stretched(0, strings.Repeat("\x00", 1023)+"a")),
		"one byte more":                 begun().file("/a", 1025, stretched(0, ab), stretched(1024, "a")),
		"a hole between":                begun().file("/a", 3072, stretched(0, ab), stretched(2048, ab)),
		"a name right behind":           begun().file("/a", 0).name("/b", 0),
	} {
		want, e := listTold(a.end())
		if e != api.OK {
			t.Error(what, "is not right, as it is told here:", e)
		}
		lists(t, a.end(), api.OK, want...)
	}
}

// byChance is an archive by chance, most often with little that is not right.
func byChance(r *rand.Rand) archive {
	ab := strings.Repeat("ab", 512)
	paths := []string{"/a", "/b", "/d", "/d/a", "/d/e", "/d/e/a", "/d/e/b", "/a/b", "/c", "/e", "/d/b"}
	texts := []string{ab, ab, ab, ab[:1023], "a", "abc", strings.Repeat("\x00", 1024), "\x00", "\x00b", noise(r, 1024), noise(r, 1+r.Intn(1024))}
	a := begun()
	for k := range r.Intn(9) {
		p := paths[(k+r.Intn(2)*r.Intn(20))%len(paths)]
		switch x := r.Intn(20); {
		case x < 7 || p == "/d" || p == "/d/e":
			a = a.dir(p)
		case x < 12:
			text := texts[r.Intn(len(texts))]
			size := uint64(len(text))
			l := []piece{stretched(0, text)}
			if len(text) == 1024 && r.Intn(2) == 0 {
				more := texts[r.Intn(len(texts))]
				l = append(l, stretched(1024, more))
				size += uint64(len(more))
			}
			if r.Intn(6) == 0 {
				size += uint64(r.Intn(3)*1024 + r.Intn(3) - 1)
			}
			a = a.file(p, size, l...)
		case x < 14:
			a = a.file(p, uint64(r.Intn(5000)))
		case x < 19 && k > 0:
			a = a.name(p, r.Intn(k))
		default:
			a = a.head(byte(r.Intn(6)), p+"/"[:r.Intn(2)])
		}
	}
	return a
}

func TestListByChance(t *testing.T) { // P20.2, P1
	r := rand.New(rand.NewSource(2))
	met := map[api.Errno]int{}
	for range 20000 {
		b := byChance(r).end()
		want, e := listTold(b)
		lists(t, b, e, want...)
		met[e]++
	}
	if met[api.OK] < 2000 || met[api.ErrEntry] < 2000 {
		t.Error("met:", met)
	}
}

func TestListOfWhatWasChanged(t *testing.T) { // P20.2, P1: bytes are changed, left out and put in, and the sum is made right again
	r := rand.New(rand.NewSource(3))
	met := map[api.Errno]int{}
	for range 15000 {
		b := byChance(r).end()
		if r.Intn(2) == 0 {
			b = full().end()
		}
		b = b[:len(b)-4]
		for range 1 + r.Intn(2) {
			at := r.Intn(len(b))
			switch r.Intn(4) {
			case 0:
				b[at]++
			case 1:
				b[at] = byte(r.Intn(256))
			case 2:
				b = slices.Delete(b, at, at+1)
			case 3:
				b = slices.Insert(b, at, byte(r.Intn(4)))
			}
		}
		want, e := listTold(sealed(b))
		lists(t, sealed(b), e, want...)
		met[e]++
	}
	if met[api.OK] < 250 || met[api.ErrEntry] < 5000 {
		t.Error("met:", met)
	}
}

func TestListOfBytesByChance(t *testing.T) { // P20.2, P1
	r := rand.New(rand.NewSource(4))
	for range 20000 {
		b := []byte(noise(r, r.Intn(60)))
		for k := range b {
			b[k] %= 5
		}
		copy(b, "CUNA")
		want, e := listTold(sealed(b))
		lists(t, sealed(b), e, want...)
		lists(t, b, api.ErrTorn)
	}
}
