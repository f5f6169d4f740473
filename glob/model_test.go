package glob

import (
	"math/rand"
	"slices"
	"strings"
	"testing"

	"cuneiform/api"
)

func TestPartsAsTold(t *testing.T) { // P18.1
	r := rand.New(rand.NewSource(4))
	counts := map[bool]int{}
	none := 0
	for range 200000 {
		s := text(r, 9, "*", "?", "[", "]", "!", "-", "-", "a", "b", "c", "[a-c]", "[!b]", "[]", "/", "\xff")
		name := text(r, 6, "a", "a", "b", "c", "-", "!", "]", "[", "/", "\xff")
		marks, ok := marksTold(s)
		got, e := Part(s, name)
		if !ok || s == "**" {
			none++
			if got || e != api.ErrName {
				t.Fatalf("Part(%q, %q): %v, %d", s, name, got, e)
			}
			continue
		}
		if want := cut(marks, name); e != api.OK || got != want {
			t.Fatalf("Part(%q, %q): %v, %d, not %v", s, name, got, e, want)
		}
		counts[got]++
	}
	if none < 1000 || counts[false] < 1000 || counts[true] < 1000 {
		t.Errorf("too few of a kind: %d, %v", none, counts)
	}
}

func TestSetsAsTold(t *testing.T) { // P18.1
	// All texts of up to six of these bytes behind a [.
	alphabet := "!-]a["
	var grow func(s string)
	grow = func(s string) {
		marks, ok := marksTold(s)
		for _, name := range []string{"", "!", "-", "]", "a", "[", "b", "a]", "-]", "!a", "Q", "\\", "/"} {
			got, e := Part(s, name)
			if ok && (e != api.OK || got != cut(marks, name)) || !ok && (e != api.ErrName || got) {
				t.Fatalf("Part(%q, %q): %v, %d", s, name, got, e)
			}
		}
		if len(s) == 7 {
			return
		}
		for i := range len(alphabet) {
			grow(s + alphabet[i:i+1])
		}
	}
	grow("[")
}

// anyPattern is a text that often is a pattern.
func anyPattern(r *rand.Rand) string {
	s := ""
	for range r.Intn(6) {
		s += "/" + text(r, 1, "/")
		switch r.Intn(4) {
		case 0:
			s += "**"
		case 1:
			s += text(r, 3, "*", "?", "a", "b", "[ab]", "[!a]", "[b-a]", "[!\x00-\xff]", "[")
		default:
			s += text(r, 2, "*", "?", "a", "b")
		}
	}
	return s
}

// partsRight tells whether all are parts.
func partsRight(l []string) bool {
	for _, s := range l {
		if _, ok := marksTold(s); !ok {
			return false
		}
	}
	return true
}

func TestPatternsAsTold(t *testing.T) { // P18.1, P18.2, P18.6
	r := rand.New(rand.NewSource(5))
	counts := map[[2]bool]int{}
	for range 15000 {
		s := anyPattern(r)
		parts := partsTold(s)
		p, e := New(s)
		switch {
		case s == "":
			if p != nil || e != api.ErrPath {
				t.Fatalf("New(%q): %v, %d", s, p, e)
			}
			continue
		case !partsRight(parts):
			if p != nil || e != api.ErrName {
				t.Fatalf("New(%q): %v, %d", s, p, e)
			}
			continue
		case e != api.OK || p.Size() != len(parts):
			t.Fatalf("New(%q): %d", s, e)
		}
		for range 8 {
			var l []string
			for range r.Intn(6) {
				l = append(l, text(r, 3, "a", "a", "b", "c"))
			}
			kept := slices.Clone(l)
			match, may := p.Match(l), p.May(l)
			if match != matchTold(parts, l) || may != mayTold(parts, l) {
				t.Fatalf("%q and %q: %v, %v", s, l, match, may)
			}
			counts[[2]bool{match, may}]++
			for n := range l {
				if match && !p.May(l[:n]) {
					t.Fatalf("%q matches %q, but may not begin with %q", s, l, l[:n])
				}
			}
			if !slices.Equal(l, kept) {
				t.Fatal("the names were changed")
			}
		}
	}
	if len(counts) != 3 {
		t.Errorf("not all kinds were there: %v", counts)
	}
}

func TestNewAtTheEdges(t *testing.T) { // P18.1
	r := rand.New(rand.NewSource(6))
	counts := map[api.Errno]int{}
	for range 20000 {
		s := text(r, 1, "/", "a") + text(r, 40, "/", "/a", "/**", "/*", "/[", "/[a]", "a", "aaaaaaaaaaaaaaaa", "/????????", "////")
		if r.Intn(2) == 0 {
			s = "/" + s
		}
		parts := partsTold(s)
		want := api.OK
		switch {
		case len(s) < 1 || len(s) > 255 || s[0] != '/' || len(parts) > 16:
			want = api.ErrPath
		case !partsRight(parts):
			want = api.ErrName
		}
		if p, e := New(s); e != want || (p != nil) != (e == api.OK) {
			t.Fatalf("New(%q): %v, %d, not %d", s, p, e, want)
		}
		counts[want]++
	}
	if len(counts) != 3 {
		t.Errorf("not all kinds were there: %v", counts)
	}
}

func TestAPatternIsItsOwn(t *testing.T) { // P18.2
	// One pattern asked again and again, and others beside it, answer alike.
	p, q := pattern(t, "/**/a*b/**/c"), pattern(t, "/**/c")
	l := names("x/ab/y/aab/c")
	for range 3 {
		if !p.Match(l) || p.Match(l[:4]) || !p.May(l[:4]) || !q.Match(l) || q.Match(l[:1]) {
			t.Fatal("another answer")
		}
	}
}

func TestLongNames(t *testing.T) { // P18.1, P1
	// Each run can end anywhere, and all but what is last fits: to try all would not end.
	long := strings.Repeat("a", 1<<17)
	for _, part := range []string{strings.Repeat("*a", 31) + "b", strings.Repeat("*", 63) + "b", strings.Repeat("a*", 31) + "b", strings.Repeat("*?", 31) + "b", strings.Repeat("*[!b]", 12) + "*b", "*a*b*a"} {
		if yes, e := Part(part, long); yes || e != api.OK {
			t.Errorf("Part(%q): %v, %d", part, yes, e)
		}
		if yes, e := Part(part, long+"b"); yes != strings.HasSuffix(part, "b") || e != api.OK {
			t.Errorf("Part(%q), a b behind the name: %v, %d", part, yes, e)
		}
	}
	if yes, e := Part(strings.Repeat("*?", 29)+"[b-a]", long); yes || e != api.OK {
		t.Errorf("what stands for nothing: %v, %d", yes, e)
	}
	if yes, e := Part(strings.Repeat("?", 64), long); yes || e != api.OK {
		t.Errorf("64 bytes: %v, %d", yes, e)
	}
}

func TestManyNames(t *testing.T) { // P18.2, P1
	many := slices.Repeat([]string{"a"}, 1<<16)
	p := pattern(t, strings.Repeat("/**/a", 7)+"/**/b")
	if p.Match(many) || !p.May(many) || !p.Match(append(many, "b")) {
		t.Error("many names, one b behind them")
	}
	p = pattern(t, strings.Repeat("/**", 15)+"/[b-a]")
	if p.Match(many) || p.May(many) {
		t.Error("many names, and what matches none")
	}
	p = pattern(t, "/**/a*a*a*a*b/**/a")
	if p.Match(slices.Repeat([]string{strings.Repeat("a", 1000)}, 100)) || !p.May(many) {
		t.Error("many long names")
	}
	if p := pattern(t, "/a/**"); !p.Match(many) || !p.May(many) {
		t.Error("/a/** and many names")
	}
	if p := pattern(t, "/a/a"); p.Match(many) || p.May(many) {
		t.Error("/a/a and many names")
	}
}
