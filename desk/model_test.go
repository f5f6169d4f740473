package desk

import (
	"bytes"
	"encoding/hex"
	"fmt"
	"math/rand"
	"regexp"
	"slices"
	"strconv"
	"strings"
	"testing"

	"cuneiform/api"
	"cuneiform/fs"
	"cuneiform/nand"
)

// What a desk answers is told here once more, as plainly as can be: what the layers answer.

// plain is a desk.
type plain struct {
	c      *nand.Chip
	f      *fs.FS
	faults []api.Fault
}

// plainLines are the lines that there are: what they need (c or f), how they look, and what they do.
var plainLines = []struct {
	needs, look string
	do          func(p *plain, w []string) (api.Errno, string)
}{
	{"", "chip N N N", func(p *plain, w []string) (api.Errno, string) {
		c, e := nand.New(api.Geo{Blocks: num(w[0]), Pages: num(w[1]), Size: num(w[2])}, nil)
		if e == api.OK {
			p.c, p.f = c, nil
		}
		return e, "ok"
	}},
	{"c", "bad N", func(p *plain, w []string) (api.Errno, string) { return p.c.Mark(num(w[0])), "ok" }},
	{"c", "fault N N HEX", func(p *plain, w []string) (api.Errno, string) {
		if len(p.faults) == 1000 {
			return api.ErrLong, ""
		}
		l := append(p.faults, api.Fault{At: num(w[0]), Kind: num(w[1]), Data: unhexed(w[2])})
		e := p.c.Script(l)
		if e == api.OK {
			p.faults = l
		}
		return e, "ok"
	}},
	{"c", "lose", func(p *plain, w []string) (api.Errno, string) { p.c.Lose(); return api.OK, "ok" }},
	{"c", "start", func(p *plain, w []string) (api.Errno, string) { p.c.Start(); return api.OK, "ok" }},
	{"c", "format N", func(p *plain, w []string) (api.Errno, string) { p.f = nil; return fs.Format(p.c, num(w[0])), "ok" }},
	{"c", "mount", func(p *plain, w []string) (api.Errno, string) {
		f, e := fs.Mount(p.c)
		if e == api.OK {
			p.f = f
		}
		return e, "ok"
	}},
	{"f", "unmount", func(p *plain, w []string) (api.Errno, string) {
		e := p.f.Unmount()
		p.f = nil
		return e, "ok"
	}},
	{"f", "open P N", func(p *plain, w []string) (api.Errno, string) {
		h, e := p.f.Open(w[0], num(w[1]))
		return e, fmt.Sprint("handle ", h)
	}},
	{"f", "close N", func(p *plain, w []string) (api.Errno, string) { return p.f.Close(num(w[0])), "ok" }},
	{"f", "read N N", func(p *plain, w []string) (api.Errno, string) {
		b, e := p.f.Read(num(w[0]), num(w[1]))
		if len(b) == 0 {
			return e, "bytes -"
		}
		return e, "bytes " + hex.EncodeToString(b)
	}},
	{"f", "write N HEX", func(p *plain, w []string) (api.Errno, string) {
		n, e := p.f.Write(num(w[0]), unhexed(w[1]))
		return e, fmt.Sprint("wrote ", n)
	}},
	{"f", "fill N N N", func(p *plain, w []string) (api.Errno, string) {
		if num(w[1]) < 0 || num(w[1]) > 2000 || num(w[2]) < 0 || num(w[2]) > 255 {
			return api.ErrLine, ""
		}
		n, e := p.f.Write(num(w[0]), bytes.Repeat([]byte{byte(num(w[2]))}, num(w[1])))
		return e, fmt.Sprint("wrote ", n)
	}},
	{"f", "seek N N N", func(p *plain, w []string) (api.Errno, string) {
		at, e := p.f.Seek(num(w[0]), int64(num(w[1])), num(w[2]))
		return e, fmt.Sprint("at ", at)
	}},
	{"f", "truncate P N", func(p *plain, w []string) (api.Errno, string) { return p.f.Truncate(w[0], int64(num(w[1]))), "ok" }},
	{"f", "mkdir P", func(p *plain, w []string) (api.Errno, string) { return p.f.Mkdir(w[0]), "ok" }},
	{"f", "rmdir P", func(p *plain, w []string) (api.Errno, string) { return p.f.Rmdir(w[0]), "ok" }},
	{"f", "unlink P", func(p *plain, w []string) (api.Errno, string) { return p.f.Unlink(w[0]), "ok" }},
	{"f", "link P P", func(p *plain, w []string) (api.Errno, string) { return p.f.Link(w[0], w[1]), "ok" }},
	{"f", "rename P P", func(p *plain, w []string) (api.Errno, string) { return p.f.Rename(w[0], w[1]), "ok" }},
	{"f", "ls P", func(p *plain, w []string) (api.Errno, string) {
		l, e := p.f.List(w[0])
		s := "names"
		for _, entry := range l {
			s += " " + entry.Name
		}
		return e, s
	}},
	{"f", "stat P", func(p *plain, w []string) (api.Errno, string) {
		s, e := p.f.Stat(w[0])
		return e, fmt.Sprintf("inode %d kind %d links %d size %d pages %d", s.Inode, s.Kind, s.Links, s.Size, s.Pages)
	}},
	{"f", "df", func(p *plain, w []string) (api.Errno, string) {
		s, e := p.f.StatFS()
		only := ""
		if s.ReadOnly {
			only = " read-only"
		}
		return e, fmt.Sprintf("pages %d of %d inodes %d of %d%s", s.UsedPages, s.Pages, s.UsedInodes, s.Inodes, only)
	}},
	{"f", "fsync N", func(p *plain, w []string) (api.Errno, string) { return p.f.Fsync(num(w[0])), "ok" }},
	{"f", "sync", func(p *plain, w []string) (api.Errno, string) { return p.f.Sync(), "ok" }},
	{"f", "tree P", func(p *plain, w []string) (api.Errno, string) {
		s := "paths"
		for at := range p.f.Walk(w[0]) {
			s += " " + at
		}
		return api.OK, s
	}},
}

func num(s string) int {
	n, err := strconv.Atoi(s)
	if err != nil {
		panic(err)
	}
	return n
}

func unhexed(s string) []byte {
	b, err := hex.DecodeString(strings.TrimPrefix(s, "-"))
	if err != nil {
		panic(err)
	}
	return b
}

// plainLooks are the looks of the lines, as expressions.
var plainLooks = func() []*regexp.Regexp {
	var l []*regexp.Regexp
	for _, k := range plainLines {
		words := strings.Fields(k.look)
		for i, w := range words[1:] {
			words[i+1] = map[string]string{"N": "(0|-?[1-9][0-9]*)", "HEX": "(-|(?:[0-9a-f]{2})+)", "P": "([^ ]+)"}[w]
		}
		l = append(l, regexp.MustCompile(`\A`+strings.Join(words, " ")+`\z`))
	}
	return l
}()

// numbersFit tells whether all numbers of a line are ones.
func numbersFit(look string, w []string) bool {
	for k, kind := range strings.Fields(look)[1:] {
		if _, err := strconv.ParseInt(w[k], 10, 64); kind == "N" && err != nil {
			return false
		}
	}
	return true
}

func (p *plain) line(s string) string {
	refused := func(e api.Errno) string { return fmt.Sprint("error ", int(e)) }
	if len(s) > 8192 {
		return refused(api.ErrLong)
	}
	for k, look := range plainLooks {
		w := look.FindStringSubmatch(s)
		if w == nil || !numbersFit(plainLines[k].look, w[1:]) {
			continue
		}
		l := plainLines[k]
		if l.look == "fill N N N" && (num(w[2]) < 0 || num(w[2]) > 2000 || num(w[3]) < 0 || num(w[3]) > 255) {
			return refused(api.ErrLine)
		}
		if l.needs == "c" && p.c == nil || l.needs == "f" && p.f == nil {
			return refused(api.ErrNil)
		}
		e, answer := l.do(p, w[1:])
		if e != api.OK {
			return refused(e)
		}
		return answer
	}
	return refused(api.ErrLine)
}

// writer writes scripts.
type writer struct {
	r *rand.Rand
}

func (w writer) one(l ...string) string { return l[w.r.Intn(len(l))] }

func (w writer) path() string {
	switch w.r.Intn(20) {
	case 0:
		return w.one("/", "a", "/.", "/a/../b", "//a///b/", "/"+strings.Repeat("x", 14), strings.Repeat("/a", 17), strings.Repeat("/", 256), "\xff", "/\xff", "/a\tb", "-", "7")
	case 1:
		return strings.Repeat(w.one("/a", "/b"), 1+w.r.Intn(8))
	}
	p := w.one("/a", "/b", "/c", "/d")
	for w.r.Intn(3) == 0 {
		p += w.one("/a", "/b")
	}
	return p
}

func (w writer) handle() string {
	if w.r.Intn(20) == 0 {
		return w.one("-1", "15", "16", "9223372036854775807", "-9223372036854775808")
	}
	return fmt.Sprint(w.r.Intn(4))
}

func (w writer) hex(most int) string {
	if w.r.Intn(8) == 0 {
		return "-"
	}
	b := make([]byte, 1+w.r.Intn(most))
	w.r.Read(b)
	for i := range b {
		b[i] >>= w.r.Intn(9)
	}
	return hex.EncodeToString(b)
}

// chipLine is a line that is done with a chip.
func (w writer) chipLine() string {
	n := func(most int) string { return fmt.Sprint(w.r.Intn(most)) }
	switch w.r.Intn(10) {
	case 0:
		return w.one("chip 22 8 64", "chip 16 8 64", "chip 11 12 128", "chip 10 32 64", "chip 8 14 512", "chip 8 4 64", "chip 7 8 64", "chip 16 8 65", "chip 0 0 0")
	case 1:
		return "bad " + w.one(n(22), n(200), "-1")
	case 2, 3, 4:
		return "fault " + w.one(n(4), n(40), n(200), "-1") + " " + w.one("1", "2", "2", "3", "3", "3", n(6), "-1") + " " + w.hex(40)
	case 5:
		return "lose"
	case 6:
		return "start"
	case 7:
		return "format " + w.one("1", "2", "3", n(30), "-1", "32769")
	}
	return "mount"
}

// fileLine is a line that is done with a file system.
func (w writer) fileLine() string {
	n := func(most int) string { return fmt.Sprint(w.r.Intn(most)) }
	switch w.r.Intn(26) {
	case 0:
		return w.one("unmount", "sync", "df")
	case 1, 2, 3:
		return "open " + w.path() + " " + w.one("7", "7", "7", "3", "1", "15", "23", "39", n(64), n(70))
	case 4:
		return "close " + w.handle()
	case 5, 6:
		return "read " + w.handle() + " " + w.one(n(20), n(200), "1024", n(1100), "-1")
	case 7, 8:
		return "write " + w.handle() + " " + w.hex(200)
	case 9, 10:
		return "fill " + w.handle() + " " + w.one(n(20), n(1025), "1024", "1024", n(2010), "-1") + " " + w.one(n(256), n(260))
	case 11, 12:
		return "seek " + w.handle() + " " + w.one(n(20), n(3000), "-"+n(20), "1099511627776", "9223372036854775807") + " " + n(4)
	case 13:
		return "truncate " + w.path() + " " + w.one(n(20), n(3000), "-1", "9223372036854775807")
	case 14, 15:
		return "mkdir " + w.path()
	case 16:
		return "rmdir " + w.path()
	case 17:
		return "unlink " + w.path()
	case 18:
		return "link " + w.path() + " " + w.path()
	case 19, 20:
		return "rename " + w.path() + " " + w.path()
	case 21:
		return "ls " + w.one("/", w.path())
	case 22:
		return "stat " + w.path()
	case 23:
		return "df"
	case 24:
		return w.one("fsync "+w.handle(), "sync", "sync")
	}
	return "tree " + w.one("/", "/", w.path())
}

// line is any line.
func (w writer) line() string {
	switch n := w.r.Intn(100); {
	case n < 8:
		return w.chipLine()
	case n < 10:
		return w.spoilt(w.one(w.chipLine(), w.fileLine()))
	}
	return w.fileLine()
}

// spoilt is a line of which a byte is another one, or gone, or more.
func (w writer) spoilt(s string) string {
	k := w.r.Intn(len(s))
	some := []byte{" -/09afAx\t\n\x00\xff"[w.r.Intn(13)]}
	switch w.r.Intn(3) {
	case 0:
		return s[:k] + s[k+1:]
	case 1:
		return s[:k] + string(some) + s[k:]
	}
	return s[:k] + string(some) + s[k+1:]
}

// script are n lines by chance. They begin as most do, and mostly what was taken away comes again soon.
func script(seed int64, n int) []string {
	w := writer{rand.New(rand.NewSource(seed))}
	var l []string
	if w.r.Intn(10) > 0 {
		l = append(l, w.one("chip 22 8 64", "chip 16 8 64", "chip 11 12 128", "chip 10 32 64"), "format "+w.one("1", "2"), "mount")
	}
	for len(l) < n {
		line := strings.ReplaceAll(w.line(), "\n", "")
		l = append(l, line)
		verb, _, _ := strings.Cut(line, " ")
		if w.r.Intn(8) == 0 {
			continue
		}
		switch verb {
		case "chip", "format":
			l = append(l, "start", "format 2", "mount", "open /a 7")
		case "lose", "mount", "unmount":
			l = append(l, "start", "mount", "tree /", "df", "open /a 7", "open /b 7")
		case "sync":
			l = append(l, "start", "mount", "tree /", "df")[:len(l)+w.r.Intn(5)]
		}
	}
	return l[:n]
}

func TestPlays(t *testing.T) { // P16.1, P16.2, W7
	ends := map[string]int{}
	for seed := range int64(400) {
		l := script(seed, 300)
		d, p := New(), &plain{}
		var all strings.Builder
		for k, line := range l {
			got, want := d.Line(line), p.line(line)
			if got != want {
				t.Fatalf("script %d, line %d, %q: %q, not %q", seed, k, line, got, want)
			}
			all.WriteString(want + "\n")
			verb, _, _ := strings.Cut(line, " ")
			word, _, _ := strings.Cut(want, " ")
			if word == "error" {
				word = want
			}
			ends[verb+": "+word]++
		}
		runs(t, strings.Join(l, "\n"), all.String(), api.OK)
		runs(t, strings.Join(l, "\n")+"\n", all.String(), api.OK)
	}
	// The plays are worth something only if much comes about in them.
	for _, k := range plainLines {
		verb, _, _ := strings.Cut(k.look, " ")
		word := map[string]string{"open": "handle", "read": "bytes", "write": "wrote", "fill": "wrote", "seek": "at", "ls": "names", "stat": "inode", "df": "pages", "tree": "paths"}[verb]
		if word == "" {
			word = "ok"
		}
		if ends[verb+": "+word] < 20 {
			t.Error(verb, "was done so often:", ends[verb+": "+word])
		}
	}
	for _, e := range []string{"chip: error 1", "mount: error 3", "mount: error 4", "mount: error 80", "format: error 1", "format: error 40", "bad: error 12", "fault: error 1", "unmount: error 3", "open: error 1", "open: error 30", "open: error 60", "open: error 61", "open: error 62", "open: error 63", "open: error 67", "close: error 65", "read: error 73", "write: error 73", "fill: error 1", "fill: error 67", "fill: error 90", "seek: error 1", "mkdir: error 61", "mkdir: error 67", "mkdir: error 68", "rmdir: error 62", "rmdir: error 64", "unlink: error 63", "link: error 61", "link: error 63", "rename: error 60", "rename: error 70", "ls: error 62", "sync: error 4", "sync: error 68"} {
		if ends[e] == 0 {
			t.Error("never was there", e)
		}
	}
}

func TestPlaysOfPagesThatAreTorn(t *testing.T) { // P1
	// A fault's data may be what stood on the chip: a page that is valid, and not what was to be written.
	for seed := range int64(150) {
		w := writer{rand.New(rand.NewSource(seed))}
		d, p := New(), &plain{}
		for _, line := range script(seed, 100) {
			if d.chip != nil && w.r.Intn(4) == 0 {
				pages, _, _ := d.chip.Dump()
				pages = slices.DeleteFunc(pages, func(b []byte) bool { return b == nil })
				if len(pages) > 0 {
					fault := fmt.Sprintf("fault %d %d %x", w.r.Intn(6), 2+w.r.Intn(2), pages[w.r.Intn(len(pages))])
					if got, want := d.Line(fault), p.line(fault); got != want {
						t.Fatalf("%q: %q, not %q", fault, got, want)
					}
				}
			}
			for _, line := range []string{line, "start", "mount"} {
				if got, want := d.Line(line), p.line(line); got != want {
					t.Fatalf("%q: %q, not %q", line, got, want)
				}
			}
		}
	}
}

func TestAnyText(t *testing.T) { // P1
	w := writer{rand.New(rand.NewSource(1))}
	for range 300 {
		var l []string
		for range 60 {
			s := w.one(w.chipLine(), w.fileLine(), "mount", "chip 22 8 64", "format 2")
			for range w.r.Intn(3) {
				s = w.spoilt(s + " ")
			}
			l = append(l, s)
		}
		script := strings.Join(l, "\n")
		p, want := &plain{}, ""
		for line := range strings.SplitSeq(strings.TrimSuffix(script, "\n"), "\n") {
			want += p.line(line) + "\n"
		}
		runs(t, script, want, api.OK)
	}
}
