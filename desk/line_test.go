package desk

import (
	"fmt"
	"math/big"
	"slices"
	"strings"
	"testing"

	"cuneiform/api"
)

func TestNumbers(t *testing.T) { // P16.1
	for _, n := range []string{"0", "7", "10", "1099511627776", "-1", "-10", "9223372036854775807", "-9223372036854775808"} {
		want := "at " + n
		if v, _ := new(big.Int).SetString(n, 10); v.Sign() < 0 || v.Cmp(big.NewInt(1<<40)) > 0 {
			want = "error 1"
		}
		bench(t, some, "seek 0 "+n+" 0 => "+want)
	}
	for _, n := range []string{"-", "", "-0", "00", "01", "-01", "007", "+0", "+1", "--1", "1-", "1.0", "1e3", "0x1", "1_0", "a", "1a", "٣", "9223372036854775808", "-9223372036854775809", "18446744073709551616", strings.Repeat("9", 1000), "1\t", "\t1", "1\n", "1\x00"} {
		d := bench(t, some)
		for _, line := range []string{"seek 0 %s 0", "seek %s 0 0", "seek 0 0 %s", "close %s", "open /a %s", "truncate /a %s", "fill 0 %s 1", "chip %s 8 64", "bad %s", "fault %s 1 -", "fault 0 %s -", "format %s", "read 0 %s", "fsync %s", "write %s 00"} {
			line = fmt.Sprintf(line, n)
			if got := d.Line(line); got != "error 90" {
				t.Errorf("%q: %q", line, got)
			}
		}
	}
}

func TestHex(t *testing.T) { // P16.1
	all := ""
	for x := range 256 {
		all += fmt.Sprintf("%02x", x)
	}
	bench(t, some, "seek 0 0 0 => at 0", "write 0 "+all+" => wrote 256", "seek 0 0 0 => at 0", "read 0 256 => bytes "+all)
	for _, h := range []string{"", "0", "000", "0g", "g0", "0G", "AB", "aB", "--", "-0", "00-", "0 0", " 00", "00 ", "0x00", "é", "0\x00", "00\n"} {
		d := bench(t, some)
		for _, line := range []string{"write 0 " + h, "fault 0 1 " + h} {
			if got := d.Line(line); got != "error 90" {
				t.Errorf("%q: %q", line, got)
			}
		}
	}
}

// shapes are lines as they are to be, one of each kind.
var shapes = []string{"chip 22 8 64", "bad 3", "fault 0 1 00", "lose", "start", "format 2", "mount", "unmount", "open /a 7", "close 0", "read 0 1", "write 0 00", "fill 0 1 1", "seek 0 0 0", "truncate /a 0", "mkdir /x", "rmdir /d/e", "unlink /a", "link /a /x", "rename /a /x", "ls /", "stat /", "df", "fsync 0", "sync", "tree /"}

// wrongShapes are lines that are none.
func wrongShapes() []string {
	l := []string{"", " ", "  ", "\n", "\t", "foo", "0", "-", "/", "#", "é", "\xff", "sync sync", "sync\nsync"}
	for _, s := range shapes {
		words := strings.Split(s, " ")
		l = append(l, " "+s, s+" ", s+" 0", s+" -", s+" /a", "x"+s, strings.ToUpper(s[:1])+s[1:], words[0]+"s"+s[len(words[0]):], words[0]+"\t"+s[len(words[0]):], "\x00"+s)
		if len(words) > 1 {
			l = append(l, words[0], strings.Join(words[:len(words)-1], " "), strings.Replace(s, " ", "  ", 1), strings.Replace(s, " ", "\t", 1), strings.Replace(s, " ", "\n", 1))
		} else {
			l = append(l, s+"\n", s+"\r")
		}
	}
	return l
}

func TestLinesThatAreNone(t *testing.T) { // P16.1, P16.4
	for k, standing := range standings {
		d := bench(t, standing)
		before := sight(d)
		for _, line := range wrongShapes() {
			if got := d.Line(line); got != "error 90" {
				t.Errorf("%q: %q", line, got)
			}
		}
		same(t, fmt.Sprint("behind lines that are none: ", k), sight(d), before)
	}
	// Each of those that are right is one.
	for _, line := range shapes {
		d := bench(t, some)
		if got := d.Line(line); got != "ok" && strings.HasPrefix(got, "error") {
			t.Errorf("%q: %q", line, got)
		}
	}
	if len(shapes) != len(forms) {
		t.Error("not of each kind one")
	}
}

func TestLongLines(t *testing.T) { // P16.1
	for _, standing := range standings {
		d := bench(t, standing)
		before := sight(d)
		most := 1 << 13
		for _, k := range []struct{ line, want string }{
			{strings.Repeat("a", most), "error 90"},
			{strings.Repeat("a", most+1), "error 2"},
			{strings.Repeat(" ", most+1), "error 2"},
			{strings.Repeat(" ", most), "error 90"},
			{"fault 0 1 " + strings.Repeat("0", most-9), "error 2"},
			{"write 0 " + strings.Repeat("0", most-7), "error 2"},
			{strings.Repeat("sync ", most), "error 2"},
			{"seek 0 " + strings.Repeat("0", most-9) + " 0", "error 90"},
			{"seek 0 " + strings.Repeat("0", most-8) + " 0", "error 2"},
		} {
			if got := d.Line(k.line); got != k.want {
				t.Errorf("%d bytes %.10q: %q, not %q", len(k.line), k.line, got, k.want)
			}
		}
		same(t, "behind lines that are too long", sight(d), before)
	}
	// Of just so many bytes one that is right is done.
	d := bench(t, empty)
	for _, k := range []struct{ line, want string }{
		{"mkdir " + strings.Repeat("/", 1<<13-6), "error 30"},
		{"fault 9 1 " + strings.Repeat("0", 1<<13-10), "ok"},
		{"write 0 " + strings.Repeat("0", 1<<13-8), "error 65"},
	} {
		if got := d.Line(k.line); got != k.want || len(k.line) != 1<<13 {
			t.Errorf("%d bytes %.10q: %q, not %q", len(k.line), k.line, got, k.want)
		}
	}
}

func TestRun(t *testing.T) { // P16.2
	runs(t, "", "", api.OK)
	runs(t, "\n", "error 90\n", api.OK)
	runs(t, "\n\n", "error 90\nerror 90\n", api.OK)
	runs(t, "mount", "error 3\n", api.OK)
	runs(t, "mount\n", "error 3\n", api.OK)
	runs(t, "mount\n\n", "error 3\nerror 90\n", api.OK)
	runs(t, "\nmount", "error 90\nerror 3\n", api.OK)
	runs(t, "mount\r\n", "error 90\n", api.OK)
	runs(t, " \n ", "error 90\nerror 90\n", api.OK)
	runs(t, "chip 16 8 64\nformat 2\nmount\nmkdir /a\nls /\ntree /\nread 0 1", "ok\nok\nok\nok\nnames a\npaths /a\nerror 65\n", api.OK)
	// Each on a new desk.
	runs(t, "ls /", "error 3\n", api.OK)
	// A line that is too long is refused by itself.
	runs(t, strings.Repeat("a", 1<<13)+"\n"+strings.Repeat("a", 1<<13+1)+"\nchip 8 8 64", "error 90\nerror 2\nok\n", api.OK)
}

func TestLongScripts(t *testing.T) { // P16.2
	lines := func(n int) string { return strings.Repeat("lose\n", n) }
	runs(t, lines(1000), strings.Repeat("error 3\n", 1000), api.OK)
	runs(t, lines(999)+"lose", strings.Repeat("error 3\n", 1000), api.OK)
	runs(t, lines(1000)+"l", "", api.ErrLong)
	runs(t, lines(1001), "", api.ErrLong)
	runs(t, strings.Repeat("\n", 1000), strings.Repeat("error 90\n", 1000), api.OK)
	runs(t, strings.Repeat("\n", 1001), "", api.ErrLong)
	runs(t, strings.Repeat("\n", 1000)+" ", "", api.ErrLong)
	runs(t, strings.Repeat("a", 1<<18), "error 2\n", api.OK)
	runs(t, strings.Repeat("a", 1<<18-1)+"\n", "error 2\n", api.OK)
	runs(t, strings.Repeat("a", 1<<18)+"\n", "", api.ErrLong)
	runs(t, strings.Repeat("a", 1<<18+1), "", api.ErrLong)
	runs(t, strings.Repeat("\n", 1<<18+1), "", api.ErrLong)
	runs(t, strings.Repeat(strings.Repeat("b", 261)+"\n", 1000), strings.Repeat("error 90\n", 1000), api.OK)
}

func TestAnswersGoOn(t *testing.T) { // P16.3
	for seed := range int64(20) {
		l := script(seed, 120)
		all, e := Run(strings.Join(l, "\n"))
		if e != api.OK {
			t.Fatal("Run:", e)
		}
		for n := range l {
			first, e := Run(strings.Join(l[:n], "\n") + "\n"[:min(n, 1)])
			if !strings.HasPrefix(all, first) || strings.Count(first, "\n") != n || e != api.OK {
				t.Fatalf("the first %d of %q: %q, %d, of all: %q", n, l, first, e, all)
			}
		}
	}
}

func TestLinesThatAreNoneAmongOthers(t *testing.T) { // P16.4
	wrong := wrongShapes()
	wrong = slices.DeleteFunc(wrong, func(s string) bool { return strings.Contains(s, "\n") })
	for seed := range int64(40) {
		l := script(seed, 150)
		without, _ := Run(strings.Join(l, "\n"))
		var with []string
		for k, line := range l {
			with = append(with, wrong[(int(seed)*31+k)%len(wrong)], line)
		}
		got, e := Run(strings.Join(with, "\n"))
		var rest []string
		for k, s := range strings.Split(got, "\n") {
			if k%2 == 1 {
				rest = append(rest, s+"\n")
			} else if s != "error 90" && s != "" {
				t.Errorf("%q: %q", with[k], s)
			}
		}
		if e != api.OK {
			t.Error("Run:", e)
		}
		same(t, "lines among those that are none", strings.Join(rest, ""), without)
	}
}
