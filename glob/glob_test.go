package glob

import (
	"math/rand"
	"slices"
	"strings"
	"testing"

	"cuneiform/api"
	"cuneiform/path"
)

// pattern is a pattern that is one.
func pattern(t *testing.T, s string) *Pattern {
	t.Helper()
	p, e := New(s)
	if e != api.OK || p == nil {
		t.Fatalf("New(%q): %v, %d", s, p, e)
	}
	return p
}

// names are a path's names, as they stand: also those that are none.
func names(s string) []string {
	if s == "" {
		return nil
	}
	return strings.Split(s, "/")
}

// of fails the test, if a part does not match each of some names, or matches one of others.
func of(t *testing.T, part string, yes, no []string) {
	t.Helper()
	for _, l := range [][]string{yes, no} {
		for _, name := range l {
			want := len(yes) > 0 && &l[0] == &yes[0]
			if got, e := Part(part, name); e != api.OK || got != want {
				t.Errorf("Part(%q, %q): %v, %d", part, name, got, e)
			}
		}
	}
}

// each is each text of one byte.
func each() []string {
	var l []string
	for x := range 256 {
		l = append(l, string([]byte{byte(x)}))
	}
	return l
}

// stands fails the test, if a part matches another byte than those of a text.
func stands(t *testing.T, part string, want string) {
	t.Helper()
	got := ""
	for _, s := range each() {
		if yes, e := Part(part, s); e != api.OK {
			t.Fatalf("Part(%q, %q): %d", part, s, e)
		} else if yes {
			got += s
		}
	}
	l := []byte(want)
	slices.Sort(l)
	if got != string(slices.Compact(l)) {
		t.Errorf("%q stands for %q, not %q", part, got, want)
	}
}

func TestExamples(t *testing.T) { // P18.1, P18.2
	p := pattern(t, "/a*/[b-d]?")
	for _, s := range []string{"a/bx", "abc/dd"} {
		if !p.Match(names(s)) {
			t.Errorf("no match of %s", s)
		}
	}
	if p.Match(names("a/a1")) {
		t.Error("a match of a, a1")
	}
	p = pattern(t, "/**/x")
	if !p.Match(names("x")) || !p.Match(names("a/b/x")) || p.Match(names("a/b")) || p.Match(nil) {
		t.Error("/**/x")
	}
	if p, e := New("/[]"); p != nil || e != api.ErrName {
		t.Errorf("New of /[]: %v, %d", p, e)
	}
}

func TestNewOfWhatIsNoPath(t *testing.T) { // P18.1
	for _, s := range []string{
		"", "a", "*", "**", "[a]", "a/b", " /a", "\x00/", strings.Repeat("/", 256), "/a" + strings.Repeat("/", 254), strings.Repeat("/a", 128), "/" + strings.Repeat("a", 255), strings.Repeat("/", 1<<20), strings.Repeat("a", 255),
		strings.Repeat("/a", 17), strings.Repeat("/**", 17), strings.Repeat("//*/", 17), strings.Repeat("/?", 127),
		// What is no path comes ahead of a part that is none.
		"[", "[]/a", "/[" + strings.Repeat("/", 254), "/[]" + strings.Repeat("/a", 16), strings.Repeat("/a", 16) + "/[", strings.Repeat("/[", 17), strings.Repeat("a", 66) + "/[",
	} {
		if p, e := New(s); p != nil || e != api.ErrPath {
			t.Errorf("New(%q): %v, %d", s, p, e)
		}
	}
}

// noParts are texts without a byte 47 that are no part.
var noParts = []string{
	"[", "[]", "[!", "[!]", "[!]a", "[]]", "[]a", "[a", "[a-", "[a-b", "[!a", "[!!", "a[", "a[]", "[a][", "[a]b[]", "*[", "?[!]", "[[", "[[a", "[-", "[--", "[---", "[a-z]*[b-", "**[", "[\x00", "[]]]", "[!]!",
	strings.Repeat("a", 65), strings.Repeat("?", 65), strings.Repeat("*", 65), "[" + strings.Repeat("a", 63) + "]", strings.Repeat("[a]", 21) + "bc", strings.Repeat("a", 250),
}

func TestNewOfPartsThatAreNone(t *testing.T) { // P18.1
	for _, s := range append(noParts, "[/]", "[a/b]", "[!/]") {
		for _, at := range []string{"/", "/a/", "//**//", strings.Repeat("/a", 14) + "/"} {
			if len(at+s) > 255 {
				continue
			}
			if p, e := New(at + s); p != nil || e != api.ErrName {
				t.Errorf("New(%q): %v, %d", at+s, p, e)
			}
		}
	}
	if p, e := New("/[/a/b]"); p != nil || e != api.ErrName {
		t.Errorf("New of a first part that is none: %v, %d", p, e)
	}
}

func TestNew(t *testing.T) { // P18.1, P18.2
	for s, want := range map[string]int{
		"/": 0, "//": 0, strings.Repeat("/", 255): 0,
		"/a": 1, "/a/": 1, "///a////b///": 2, "/**": 1, "/**/**": 2, "/*/?/[a]": 3, "/.": 1, "/../..": 2, "/\x00": 1, "/]": 1, "/!/-": 2, "/[[]": 1, "/[!!]": 1,
		strings.Repeat("/a", 16): 16, strings.Repeat("/**", 16) + "//": 16, strings.Repeat("/a", 16) + strings.Repeat("/", 223): 16,
		"/" + strings.Repeat("a", 64): 1, "/[" + strings.Repeat("a", 62) + "]/x": 2, strings.Repeat("/"+strings.Repeat("?", 64), 3) + "/" + strings.Repeat("*", 59): 4,
		strings.Repeat("/", 254) + "a": 1,
	} {
		if got := pattern(t, s).Size(); got != want {
			t.Errorf("Size of %q: %d, not %d", s, got, want)
		}
	}
}

func TestPartOfWhatIsNone(t *testing.T) { // P18.1
	for _, s := range append(noParts, "", "**", strings.Repeat("/", 65), "[/", "/[]", strings.Repeat("a", 1<<20), strings.Repeat("[", 1<<20)) {
		for _, name := range []string{"", "a", s} {
			if got, e := Part(s, name); got || e != api.ErrName {
				t.Errorf("Part(%q, %q): %v, %d", s, name, got, e)
			}
		}
	}
}

func TestPartWithBytes47(t *testing.T) { // P18.1
	of(t, "/", []string{"/"}, []string{"", "a", "//"})
	of(t, "a/b", []string{"a/b"}, []string{"a", "b", "ab", "a//b"})
	of(t, "/**", []string{"/", "/a", "//"}, []string{"", "a", "a/"})
	of(t, "[/]", []string{"/"}, []string{"", "a", "[/]"})
	of(t, "[!/]*", []string{"a", "a/"}, []string{"", "/", "/a"})
	of(t, "?", []string{"/", "\x00"}, []string{"", "//"})
}

func TestMarks(t *testing.T) { // P18.1
	all := strings.Join(each(), "")
	stands(t, "?", all)
	stands(t, "*", all)
	stands(t, "***", all)
	stands(t, "*?", all)
	for _, s := range each() {
		if s != "?" && s != "*" && s != "[" {
			stands(t, s, s)
		}
	}
	of(t, "*", []string{"", "a", "abc", "\x00\xff", ".", "..", strings.Repeat("a", 1000)}, nil)
	of(t, "***", []string{"", "a", "abc"}, nil)
	of(t, "??", []string{"ab", "é", "**", "\xff\xff"}, []string{"", "a", "abc", "éé"})
	of(t, "a*", []string{"a", "ab", "aaa", "a*"}, []string{"", "b", "ba"})
	of(t, "*a", []string{"a", "ba", "aaa", "aba"}, []string{"", "b", "ab"})
	of(t, "a*b", []string{"ab", "aab", "abb", "axxb", "abab"}, []string{"", "a", "b", "aba", "ba"})
	of(t, "*a*", []string{"a", "bab", "aa"}, []string{"", "b"})
	of(t, "a*b*a", []string{"aba", "abba", "ababa", "axbxa"}, []string{"", "aa", "ab", "abab"})
	of(t, "?*?", []string{"ab", "abc"}, []string{"", "a"})
	of(t, "*?a?*", []string{"xay", "xxayy", "aaa"}, []string{"a", "xa", "ax", "xya"})
	of(t, "a?b", []string{"axb", "abb", "a?b"}, []string{"ab", "axxb"})
	of(t, "!a-b]", []string{"!a-b]"}, []string{"", "a", "c-"})
	of(t, ".", []string{"."}, []string{"", "..", "a"})
}

func TestSets(t *testing.T) { // P18.1
	all := strings.Join(each(), "")
	without := func(few string) string {
		return string(allBut([]byte(few)))
	}
	for part, want := range map[string]string{
		"[a]": "a", "[ab]": "ab", "[aa]": "a", "[a-d]": "abcd", "[a-a]": "a", "[b-a]": "", "[a-cx-z]": "abcxyz", "[c-ab]": "b",
		"[-]": "-", "[-a]": "-a", "[a-]": "a-", "[--a]": all['-' : 'a'+1], "[---]": "-", "[--]": "-", "[a--]": "", "[+--]": "+,-", "[----]": "-", "[-----]": "-", "[----a]": "-a",
		"[a-b-c]": "ab-c", "[a-b-]": "ab-", "[a-b--]": "ab-", "[a-b--d]": "ab" + all['-':'d'+1], "[a-b-c-d]": "ab-cd", "[-a-c]": "-abc", "[a-c-e-g]": "abc-efg",
		"[!a]": without("a"), "[!a-d]": without("abcd"), "[!!]": without("!"), "[!!a]": without("!a"), "[!-]": without("-"), "[!--]": without("-"), "[!-a]": without("-a"), "[!b-a]": all, "[!!-#]": without("!\"#"),
		"[a!]": "a!", "[a!b]": "a!b", "[ -!]": " !", "[!--/]": without("-./"),
		"[[]": "[", "[[a]": "[a", "[[-^]": "[\\]^", "[a[]": "a[", "[*]": "*", "[?]": "?", "[*-?]": all['*' : '?'+1], "[![]": without("["), "[[!]": "[!", "[\\-]": "\\-", "[\\]": "\\",
		"[\x00-\xff]": all, "[!\x00-\xff]": "", "[\xfe-\xff]": "\xfe\xff", "[\xff-\x00]": "", "[\x00]": "\x00", "[!\x01-\xff]": "\x00", "[!\x00-.0-\xff]": "/", "[?-A]": "?@A", "[\x3f-\x40\x7f-\x80]": "?@\x7f\x80", "[\xc3\xa9]": "\xc3\xa9",
		"[" + strings.Repeat("a", 62) + "]": "a",
	} {
		stands(t, part, want)
	}
	// Behind a set the part goes on.
	of(t, "[a-]b]", []string{"ab]", "-b]"}, []string{"a", "b", "]", "ab"})
	of(t, "[a]]", []string{"a]"}, []string{"a", "]"})
	of(t, "[[]]", []string{"[]"}, []string{"[", "]"})
	of(t, "[a][b]", []string{"ab"}, []string{"a", "b", "ba", "abb"})
	of(t, "*[0-9]", []string{"0", "a9", "10"}, []string{"", "a", "9a"})
	of(t, "[!a]*[!a]", []string{"bb", "bab"}, []string{"", "b", "ab", "ba", "aba"})
	of(t, "*[b-a]*", nil, []string{"", "a", "b", "ab", "-", "[b-a]"})
	of(t, "[a-[]]", nil, []string{"a]", "[]", "b]", "]"})
}

func TestMatch(t *testing.T) { // P18.2
	for _, c := range []struct {
		pattern string
		yes, no []string
	}{
		{"/", []string{""}, []string{"a", "a/b"}},
		{"/a", []string{"a"}, []string{"", "b", "a/a", "aa"}},
		{"/a/b", []string{"a/b"}, []string{"", "a", "b", "b/a", "a/b/c", "a/b/"}},
		{"/*", []string{"a", "abc"}, []string{"", "a/b"}},
		{"/*/*", []string{"a/b"}, []string{"", "a", "a/b/c"}},
		{"/**", []string{"", "a", "a/b", "a//b", "a/b/c/d/e/f/g/h/i/j/k/l/m/n/o/p/q/r"}, nil},
		{"/**/**", []string{"", "a", "a/b"}, nil},
		{"/a/**", []string{"a", "a/b", "a/b/c"}, []string{"", "b", "b/a"}},
		{"/**/a", []string{"a", "b/a", "a/a/a"}, []string{"", "b", "a/b"}},
		{"/a/**/b", []string{"a/b", "a/x/b", "a/b/b", "a/x/y/b"}, []string{"", "a", "b", "a/b/x", "x/a/b"}},
		{"/**/a/**", []string{"a", "x/a", "a/x", "x/a/x"}, []string{"", "x", "x/x"}},
		{"/**/a/**/a/**", []string{"a/a", "x/a/x/a/x", "a/a/a"}, []string{"", "a", "x/a/x"}},
		{"/**/a/b", []string{"a/b", "a/a/b", "a/b/a/b"}, []string{"a", "a/b/a", "b/a"}},
		{"/***", []string{"a", "abc"}, []string{"", "a/b"}},
		{"/a**", []string{"a", "abc"}, []string{"", "a/b"}},
		{"/*/**", []string{"a", "a/b"}, []string{""}},
		{"/[*][*]", []string{"**"}, []string{"", "a", "a/b", "*/*"}},
		{"/./..", []string{"./.."}, []string{"", "./."}},
	} {
		p := pattern(t, c.pattern)
		for _, s := range c.yes {
			if !p.Match(names(s)) {
				t.Errorf("%s: no match of %q", c.pattern, s)
			}
		}
		for _, s := range c.no {
			if p.Match(names(s)) {
				t.Errorf("%s: a match of %q", c.pattern, s)
			}
		}
	}
}

func TestNamesThatAreNone(t *testing.T) { // P18.2, P1
	// Names are taken as they are.
	if p := pattern(t, "/*"); !p.Match([]string{""}) || !p.Match([]string{"a/b"}) || !p.Match([]string{"\x00"}) || !p.Match([]string{strings.Repeat("a", 1000)}) {
		t.Error("/* does not match names that are none")
	}
	if p := pattern(t, "/?"); p.Match([]string{""}) || !p.Match([]string{"/"}) {
		t.Error("/?")
	}
	if p := pattern(t, "/"); p.Match([]string{""}) || !p.Match([]string{}) {
		t.Error("/")
	}
	if p := pattern(t, "/a"); p.Match([]string{"", "a"}) || p.Match([]string{"a", ""}) || p.Match([]string{"/a"}) || p.May([]string{""}) {
		t.Error("/a")
	}
	if p := pattern(t, "/**/a"); !p.Match([]string{"", "", "a"}) {
		t.Error("/**/a")
	}
	if p := pattern(t, "/*/a"); !p.May([]string{""}) || !p.Match([]string{"", "a"}) {
		t.Error("/*/a")
	}
}

func TestMay(t *testing.T) { // P18.2
	for _, c := range []struct {
		pattern string
		yes, no []string
	}{
		{"/", []string{""}, []string{"a"}},
		{"/a", []string{"", "a"}, []string{"b", "a/a", "a/b"}},
		{"/a/b", []string{"", "a", "a/b"}, []string{"b", "a/a", "a/b/c"}},
		{"/a*/?/c", []string{"", "a", "ab", "a/x", "a/x/c"}, []string{"b", "a/xx", "a/x/b", "a/x/c/d"}},
		{"/**", []string{"", "a", "a/b/c"}, nil},
		{"/**/a", []string{"", "a", "b", "b/b", "b/a/b"}, nil},
		{"/a/**", []string{"", "a", "a/b", "a/b/c"}, []string{"b", "b/a"}},
		{"/a/**/b", []string{"", "a", "a/x", "a/b/x"}, []string{"b", "b/a/b"}},
		{"/a/b/**/c/d", []string{"", "a", "a/b", "a/b/d", "a/b/c/d/e"}, []string{"b", "a/c", "a/c/c/d"}},
		// What stands for nothing can not be behind, nor what ends with it.
		{"/[b-a]", nil, []string{"", "a", "b"}},
		{"/a/[b-a]", nil, []string{"", "a", "a/b"}},
		{"/a/x*[b-a]?", nil, []string{"", "a", "a/x"}},
		{"/**/[!\x00-\xff]", nil, []string{"", "a", "a/b"}},
		{"/a/**/[b-a]/**", nil, []string{"", "a", "a/b"}},
		{"/[b-a]/**", nil, []string{"", "b", "b/c"}},
		{"/**/[b-a]/a", nil, []string{"", "a", "b/a"}},
		{"/[!b-a]", []string{"", "a"}, []string{"ab"}},
		// Names behind may be any texts.
		{"/.", []string{"", "."}, []string{".."}},
		{"/a/[!\x00-.0-\xff]", []string{"", "a"}, []string{"a/a"}},
		{"/" + strings.Repeat("a", 64), []string{""}, []string{"a"}},
		{strings.Repeat("/a", 16), []string{"", "a", "a/a/a/a/a/a/a/a/a/a/a/a/a/a/a/a"}, []string{"b", "a/a/a/a/a/a/a/a/a/a/a/a/a/a/a/a/a"}},
	} {
		p := pattern(t, c.pattern)
		for _, s := range c.yes {
			if !p.May(names(s)) {
				t.Errorf("%q may not begin with %q", c.pattern, s)
			}
		}
		for _, s := range c.no {
			if p.May(names(s)) {
				t.Errorf("%q may begin with %q", c.pattern, s)
			}
		}
	}
}

func TestNil(t *testing.T) { // P18.2, P1
	var p *Pattern
	for _, l := range [][]string{nil, {}, {"a"}, {"a", "b"}} {
		if p.Match(l) || p.May(l) {
			t.Errorf("nil matches %q", l)
		}
	}
	if p.Size() != 0 {
		t.Errorf("Size of nil: %d", p.Size())
	}
}

func TestQuote(t *testing.T) { // P18.3
	for s, want := range map[string]string{
		"": "", "a": "a", "?": "[?]", "*": "[*]", "[": "[[]", "**": "[*][*]", "[a]": "[[]a]", "a?b*c[d]!-": "a[?]b[*]c[[]d]!-", "]": "]", "!": "!", "-": "-", "[!]": "[[]!]", "\xff*\xfe": "\xff[*]\xfe", "é?": "é[?]", "/": "/", "\x00": "\x00", "[?]": "[[][?]]", "a-b": "a-b",
		strings.Repeat("*", 1000): strings.Repeat("[*]", 1000),
	} {
		if got := Quote(s); got != want {
			t.Errorf("Quote(%q): %q, not %q", s, got, want)
		}
	}
	for _, s := range each() {
		want := s
		if s == "?" || s == "*" || s == "[" {
			want = "[" + s + "]"
		}
		if got := Quote(s); got != want {
			t.Errorf("Quote(%q): %q", s, got)
		}
	}
}

// near are texts that differ in little from a name.
func near(r *rand.Rand, name string) []string {
	at := r.Intn(len(name) + 1)
	l := []string{"", name + "a", "a" + name, name[:at], name[at:], name[:at] + "*" + name[at:], name + name, Quote(name)}
	if at < len(name) {
		l = append(l, name[:at]+name[at+1:], name[:at]+string([]byte{name[at] ^ 1<<r.Intn(8)})+name[at+1:], name[:at]+"x"+name[at+1:])
	}
	return l
}

// text is a text of at most n of some pieces.
func text(r *rand.Rand, n int, of ...string) string {
	s := ""
	for range r.Intn(n + 1) {
		s += of[r.Intn(len(of))]
	}
	return s
}

func TestQuotedNames(t *testing.T) { // P18.4
	r := rand.New(rand.NewSource(1))
	names := each()
	for range 3000 {
		names = append(names, text(r, 13, "?", "*", "[", "]", "!", "-", "a", "b", ".", "\xff", "\\"))
	}
	for _, name := range names {
		if path.Name(name) != api.OK {
			continue
		}
		quoted := Quote(name)
		p := pattern(t, "/"+quoted)
		if yes, e := Part(quoted, name); !yes || e != api.OK || !p.Match([]string{name}) {
			t.Errorf("%q does not match %q: %d", quoted, name, e)
		}
		for _, other := range near(r, name) {
			if other == name {
				continue
			}
			if yes, e := Part(quoted, other); yes || e != api.OK || p.Match([]string{other}) {
				t.Errorf("%q matches %q: %d", quoted, other, e)
			}
		}
	}
}

func TestPatternsWithoutMarks(t *testing.T) { // P18.5
	r := rand.New(rand.NewSource(2))
	for range 3000 {
		s := "/" + text(r, 12, "/", "/", "a", "b", "!", "-", "]", ".", "\xff", "\x00")
		parts := partsTold(s)
		p := pattern(t, s)
		if !p.Match(parts) || p.Size() != len(parts) {
			t.Errorf("%q does not match its parts", s)
		}
		for i, part := range parts {
			for _, other := range near(r, part) {
				l := slices.Clone(parts)
				l[i] = other
				if p.Match(l) != (other == part) {
					t.Errorf("%q matches %q", s, l)
				}
			}
			if p.Match(slices.Delete(slices.Clone(parts), i, i+1)) || p.Match(slices.Insert(slices.Clone(parts), i, "a")) {
				t.Errorf("%q matches names more or less than its parts", s)
			}
		}
	}
}

func TestWhatMatchesAll(t *testing.T) { // P18.7
	r := rand.New(rand.NewSource(3))
	all, one := pattern(t, "/**"), pattern(t, "/*")
	for range 3000 {
		var l []string
		for range r.Intn(20) {
			l = append(l, text(r, 13, "a", "?", "*", "[", ".", "\xff", "\x00", "/"))
		}
		if !all.Match(l) || !all.May(l) {
			t.Errorf("/** does not match %q", l)
		}
		for _, name := range l {
			if yes, e := Part("*", name); !yes || e != api.OK || !one.Match([]string{name}) {
				t.Errorf("* does not match %q: %d", name, e)
			}
		}
	}
}
