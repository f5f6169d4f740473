package path

import (
	"math/rand"
	"slices"
	"strings"
	"testing"

	"cuneiform/api"
)

const long = "abcdefghijklm" // a name of as many bytes as there may be

// deep is a path of n parts.
func deep(n int) string {
	return strings.Repeat("/a", n)
}

// text is any text, often one that is nearly a path.
func text(r *rand.Rand) string {
	pieces := []string{"/", "/", "/", "//", "a", "b", "ab", ".", "..", "...", "\x00", "\xff", " ", long, long + "n", deep(5)}
	var s strings.Builder
	if r.Intn(4) > 0 {
		s.WriteString("/")
	}
	for range r.Intn(24) {
		s.WriteString(pieces[r.Intn(len(pieces))])
	}
	return s.String()
}

// aName tells what the document does of names, byte by byte.
func aName(s string) bool {
	for i := 0; i < len(s); i++ {
		if s[i] == 0 || s[i] == 47 {
			return false
		}
	}
	return len(s) >= 1 && len(s) <= 13 && s != "." && s != ".."
}

// partsOf are the parts as the document tells them, byte by byte.
func partsOf(p string) []string {
	var l []string
	from := -1 // behind the last byte 47, if there was one
	for i := 0; i <= len(p); i++ {
		if i < len(p) && p[i] != 47 {
			continue
		}
		if from >= 0 && i > from {
			l = append(l, p[from:i])
		}
		from = i + 1
	}
	return l
}

// parsed is what Parse is to answer.
func parsed(p string) ([]string, api.Errno) {
	if len(p) < 1 || len(p) > 255 || p[0] != 47 {
		return nil, api.ErrPath
	}
	l := partsOf(p)
	for i, s := range l {
		if !aName(s) {
			return nil, api.ErrName
		}
		if i >= 16 {
			return nil, api.ErrPath
		}
	}
	return l, api.OK
}

func TestName(t *testing.T) { // P4.1
	for _, s := range []string{"a", "ab", long, "...", "....", ".a", "a.", "..a", "a..", " ", "-", "\\", "*", "\n", "\xff", "\xc3", "é", "\xff\xfe.", "éééééé", strings.Repeat(".", 13)} {
		if e := Name(s); e != api.OK {
			t.Errorf("Name(%q): %d", s, e)
		}
	}
	for _, s := range []string{"", ".", "..", "/", "a/", "/a", "a/b", "\x00", "a\x00", "\x00a", "a\x00b", long + "n", "ééééééé", long + "/", strings.Repeat("a", 1000), "abcdefghijk/m", "abcdefghijkl\x00"} {
		if e := Name(s); e != api.ErrName {
			t.Errorf("Name(%q): %d", s, e)
		}
	}
}

func TestNameOfEachByte(t *testing.T) { // P4.1
	for x := range 256 {
		for _, s := range []string{string([]byte{byte(x)}), string([]byte{'a', byte(x)}), string([]byte{byte(x), 255, 'b'})} {
			if e := Name(s); (e == api.OK) != aName(s) || e != api.OK && e != api.ErrName {
				t.Errorf("Name(%q): %d", s, e)
			}
		}
	}
	for n := range 300 {
		if e := Name(strings.Repeat("a", n)); (e == api.OK) != (n >= 1 && n <= 13) {
			t.Errorf("Name of %d bytes: %d", n, e)
		}
	}
}

func TestParts(t *testing.T) { // P4.1
	for _, c := range []struct {
		text  string
		parts []string
	}{
		{"", nil},
		{"/", nil},
		{"////", nil},
		{"/a", []string{"a"}},
		{"/a//b/", []string{"a", "b"}},
		{"//x//y", []string{"x", "y"}},
		{"/a/b/c", []string{"a", "b", "c"}},
		{"/./../a\x00/", []string{".", "..", "a\x00"}},
		{"/" + long + "n/\xff", []string{long + "n", "\xff"}},
		{deep(40), slices.Repeat([]string{"a"}, 40)},
		{"/" + strings.Repeat("b", 1000), []string{strings.Repeat("b", 1000)}},
	} {
		if got := slices.Collect(Parts(c.text)); !slices.Equal(got, c.parts) {
			t.Errorf("Parts(%q): %q, not %q", c.text, got, c.parts)
		}
	}
}

func TestPartsOfNoPath(t *testing.T) { // P4.1
	// What stands ahead of the first byte 47 stands neither between two nor behind one.
	for _, c := range []struct {
		text  string
		parts []string
	}{
		{"a", nil},
		{"..", nil},
		{"a/", nil},
		{"a//", nil},
		{"a/b", []string{"b"}},
		{"a/b/c/", []string{"b", "c"}},
		{"\x00//b", []string{"b"}},
	} {
		if got := slices.Collect(Parts(c.text)); !slices.Equal(got, c.parts) {
			t.Errorf("Parts(%q): %q, not %q", c.text, got, c.parts)
		}
	}
}

func TestPartsAsFarAsTheyAreAskedFor(t *testing.T) { // P4.1
	for want := 1; want <= 4; want++ {
		var got []string
		for part := range Parts("/a/b//c/d/") {
			got = append(got, part)
			if len(got) == want {
				break
			}
		}
		if !slices.Equal(got, []string{"a", "b", "c", "d"}[:want]) {
			t.Errorf("%d parts: %q", want, got)
		}
	}
	// What was ranged over once, or left, begins anew.
	parts := Parts("/a/b")
	for range parts {
		break
	}
	for range 2 {
		if got := slices.Collect(parts); !slices.Equal(got, []string{"a", "b"}) {
			t.Errorf("ranged over again: %q", got)
		}
	}
	var pairs []string
	for x := range parts {
		for y := range parts {
			pairs = append(pairs, x+y)
		}
	}
	if !slices.Equal(pairs, []string{"aa", "ab", "ba", "bb"}) {
		t.Errorf("one within another: %q", pairs)
	}
}

func TestParse(t *testing.T) { // P4.2, P4.5
	for _, c := range []struct {
		path  string
		names []string
	}{
		{"/", nil},
		{"//", nil},
		{strings.Repeat("/", 255), nil},
		{"/a", []string{"a"}},
		{"/a/", []string{"a"}},
		{"///a////b///", []string{"a", "b"}},
		{"/.../.a/a.", []string{"...", ".a", "a."}},
		{"/" + long, []string{long}},
		{"/\xff\xfe", []string{"\xff\xfe"}},
		{deep(16), slices.Repeat([]string{"a"}, 16)},
		{deep(16) + "//", slices.Repeat([]string{"a"}, 16)},
		{strings.Repeat("/"+long, 16), slices.Repeat([]string{long}, 16)},
		{strings.Repeat("/", 254) + "a", []string{"a"}},
	} {
		if got, e := Parse(c.path); e != api.OK || !slices.Equal(got, c.names) {
			t.Errorf("Parse(%q): %q, %d, not %q", c.path, got, e, c.names)
		}
	}
}

// refusals are texts that are no path that is right, and their errors.
func refusals() map[string]api.Errno {
	return map[string]api.Errno{
		"":                                api.ErrPath,
		"a":                               api.ErrPath,
		"a/b":                             api.ErrPath,
		"..":                              api.ErrPath,
		"\x00":                            api.ErrPath,
		" /a":                             api.ErrPath,
		strings.Repeat("/", 256):          api.ErrPath,
		strings.Repeat("/", 255) + "a":    api.ErrPath,
		"/a" + strings.Repeat("/", 254):   api.ErrPath,
		"/" + strings.Repeat("a", 255):    api.ErrPath,
		"/../" + strings.Repeat("/", 255): api.ErrPath,
		"/" + strings.Repeat("a", 254):    api.ErrName,
		"/.":                              api.ErrName,
		"/./a":                            api.ErrName,
		"/../a":                           api.ErrName,
		"/a/..":                           api.ErrName,
		"/a/b/./":                         api.ErrName,
		"/" + long + "n":                  api.ErrName,
		"/a\x00":                          api.ErrName,
		"/a/\x00/b":                       api.ErrName,
		deep(17):                          api.ErrPath,
		deep(17) + "/":                    api.ErrPath,
		deep(127):                         api.ErrPath,
		// Of the parts the first one that may not be, of one part the name first.
		deep(15) + "/..":           api.ErrName,
		deep(16) + "/..":           api.ErrName,
		deep(17) + "/..":           api.ErrPath,
		"/." + deep(17):            api.ErrName,
		deep(3) + "/.." + deep(20): api.ErrName,
	}
}

func TestParseOfWhatIsNone(t *testing.T) { // P4.2
	for p, want := range refusals() {
		if got, e := Parse(p); e != want || len(got) != 0 {
			t.Errorf("Parse(%q): %q, %d, not %d", p, got, e, want)
		}
	}
}

func TestSplit(t *testing.T) { // P4.3
	for _, c := range []struct {
		path  string
		ahead []string
		last  string
	}{
		{"/a", nil, "a"},
		{"//a//", nil, "a"},
		{"/a/b", []string{"a"}, "b"},
		{"/a//b/c/", []string{"a", "b"}, "c"},
		{deep(15) + "/z", slices.Repeat([]string{"a"}, 15), "z"},
	} {
		ahead, last, e := Split(c.path)
		if e != api.OK || !slices.Equal(ahead, c.ahead) || last != c.last {
			t.Errorf("Split(%q): %q, %q, %d, not %q, %q", c.path, ahead, last, e, c.ahead, c.last)
		}
	}
	for p, want := range refusals() {
		if ahead, last, e := Split(p); e != want || len(ahead) != 0 || last != "" {
			t.Errorf("Split(%q): %q, %q, %d, not %d", p, ahead, last, e, want)
		}
	}
	for _, p := range []string{"/", "//", strings.Repeat("/", 255)} {
		if ahead, last, e := Split(p); e != api.ErrRoot || len(ahead) != 0 || last != "" {
			t.Errorf("Split(%q): %q, %q, %d", p, ahead, last, e)
		}
	}
}

func TestJoin(t *testing.T) { // P4.3
	for _, c := range []struct {
		names []string
		path  string
	}{
		{nil, "/"},
		{[]string{}, "/"},
		{[]string{"a"}, "/a"},
		{[]string{"a", "b"}, "/a/b"},
		{[]string{"...", "\xff", " "}, "/.../\xff/ "},
		{slices.Repeat([]string{long}, 16), strings.Repeat("/"+long, 16)},
	} {
		kept := slices.Clone(c.names)
		if got, e := Join(c.names); e != api.OK || got != c.path {
			t.Errorf("Join(%q): %q, %d, not %q", c.names, got, e, c.path)
		}
		if !slices.Equal(kept, c.names) {
			t.Error("Join changed what it was handed")
		}
	}
}

func TestJoinOfWhatMayNotBe(t *testing.T) { // P4.3
	many := slices.Repeat([]string{"a"}, 17)
	for _, c := range []struct {
		names []string
		want  api.Errno
	}{
		{[]string{""}, api.ErrName},
		{[]string{"a", ""}, api.ErrName},
		{[]string{"", "a"}, api.ErrName},
		{[]string{"."}, api.ErrName},
		{[]string{"a", "..", "b"}, api.ErrName},
		{[]string{"a/b"}, api.ErrName},
		{[]string{"/a"}, api.ErrName},
		{[]string{"a\x00"}, api.ErrName},
		{[]string{long + "n"}, api.ErrName},
		{many, api.ErrPath},
		{slices.Repeat(many, 100), api.ErrPath},
		// A name that is none comes first, wherever it stands.
		{append([]string{"."}, many...), api.ErrName},
		{append(slices.Clone(many), "a", ""), api.ErrName},
		{append(slices.Clone(many[:16]), ""), api.ErrName},
	} {
		if got, e := Join(c.names); e != c.want || got != "" {
			t.Errorf("Join(%q): %q, %d, not %d", c.names, got, e, c.want)
		}
	}
}

func TestInside(t *testing.T) { // P4.3, P4.6
	a, ab, abc := []string{"a"}, []string{"a", "b"}, []string{"a", "b", "c"}
	for _, c := range []struct {
		l, in []string
		want  bool
	}{
		{nil, nil, false},
		{nil, []string{}, false},
		{a, nil, true},
		{a, []string{}, true},
		{nil, a, false},
		{a, a, false},
		{ab, a, true},
		{abc, a, true},
		{abc, ab, true},
		{ab, abc, false},
		{abc, abc, false},
		{abc, []string{"b"}, false},
		{abc, []string{"a", "c"}, false},
		{[]string{"ab", "c"}, a, false},
		{[]string{"a", "b"}, []string{"A"}, false},
		// Rows that are no path's have a beginning, too.
		{[]string{"", "/"}, []string{""}, true},
		{slices.Repeat(a, 40), slices.Repeat(a, 39), true},
		{slices.Repeat(a, 40), slices.Repeat(a, 40), false},
	} {
		if got := Inside(c.l, c.in); got != c.want {
			t.Errorf("Inside(%q, %q): %v", c.l, c.in, got)
		}
	}
}

func TestInsideOfAnyRows(t *testing.T) { // P4.6
	r := rand.New(rand.NewSource(1))
	row := func() []string {
		return slices.Repeat([]string{"a", "b", "a", "a"}, 3)[r.Intn(5):][:r.Intn(5)]
	}
	chains := 0
	for range 20000 {
		x, y, z := row(), row(), row()
		if Inside(x, y) && Inside(y, z) {
			chains++
			if !Inside(x, z) {
				t.Fatalf("%q lies in %q, that in %q, but not it", x, y, z)
			}
		}
		if Inside(x, x) || Inside(x, y) && Inside(y, x) {
			t.Fatalf("%q lies in itself, or in %q and that in it", x, y)
		}
		if want := len(y) < len(x) && strings.HasPrefix(strings.Join(x, "")+".", strings.Join(y, "")); Inside(x, y) != want {
			t.Fatalf("Inside(%q, %q): %v", x, y, !want)
		}
	}
	if chains == 0 {
		t.Error("nothing lay in what lay in a row")
	}
}

func TestAsTold(t *testing.T) { // P4.1 to P4.5, P1
	r := rand.New(rand.NewSource(2))
	right := 0
	for range 100000 {
		p := text(r)
		if got, want := slices.Collect(Parts(p)), partsOf(p); !slices.Equal(got, want) {
			t.Fatalf("Parts(%q): %q, not %q", p, got, want)
		}
		names, e := Parse(p)
		if want, we := parsed(p); e != we || !slices.Equal(names, want) {
			t.Fatalf("Parse(%q): %q, %d, not %q, %d", p, names, e, want, we)
		}
		ahead, last, se := Split(p)
		if e != api.OK {
			if se != e || len(ahead) != 0 || last != "" {
				t.Fatalf("Split(%q): %q, %q, %d, not %d", p, ahead, last, se, e)
			}
			continue
		}
		right++
		joined, je := Join(names)
		if je != api.OK {
			t.Fatalf("Join(%q): %d", names, je)
		}
		if again, e := Parse(joined); e != api.OK || !slices.Equal(again, names) {
			t.Fatalf("%q joined and parsed: %q, %d", names, again, e)
		}
		if more, e := Parse(strings.ReplaceAll(joined, "/", "//") + "/"); 2*len(joined) < 255 && (e != api.OK || !slices.Equal(more, names)) {
			t.Fatalf("%q with more bytes 47: %q, %d", joined, more, e)
		}
		if len(names) == 0 {
			if se != api.ErrRoot {
				t.Fatalf("Split(%q): %d", p, se)
			}
		} else if se != api.OK || !slices.Equal(append(slices.Clone(ahead), last), names) {
			t.Fatalf("Split(%q): %q, %q, %d", p, ahead, last, se)
		}
	}
	if right < 1000 {
		t.Error("few paths were right:", right)
	}
}
