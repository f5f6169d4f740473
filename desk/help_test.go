package desk

import (
	"fmt"
	"strings"
	"testing"

	"cuneiform/api"
)

// plays plays lines, each with its answer behind it, and fails the test where one answers something else. (Of a text of several rows each is one.)
func plays(t *testing.T, d *Desk, rows ...string) {
	t.Helper()
	for row := range strings.SplitSeq(strings.Join(rows, "\n"), "\n") {
		row = strings.TrimLeft(row, "\t")
		if row == "" {
			continue
		}
		line, want, ok := strings.Cut(row, " => ")
		if !ok {
			t.Fatalf("%q has no answer", row)
		}
		if got := d.Line(line); got != want {
			t.Errorf("%q: %q, not %q", line, got, want)
		}
	}
}

// bench is a new desk on which these were played.
func bench(t *testing.T, rows ...string) *Desk {
	t.Helper()
	d := New()
	plays(t, d, rows...)
	return d
}

// The ways in which a desk may stand.
const (
	noChip  = ""
	noFiles = "chip 16 8 64 => ok"
	empty   = "chip 22 8 64 => ok\nformat 2 => ok\nmount => ok"
	some    = empty + "\nopen /a 7 => handle 0\nwrite 0 616263 => wrote 3\nmkdir /d => ok\nlink /a /d/b => ok\nmkdir /d/e => ok"
	down    = some + "\nlose => ok"
)

// standings are these.
var standings = []string{noChip, noFiles, empty, some, down}

// same fails the test, if what is told is not what it was to be.
func same(t *testing.T, what, got, want string) {
	t.Helper()
	if got != want {
		t.Errorf("%s:\n%s\nnot:\n%s", what, got, want)
	}
}

// sight is all that is to be seen of a desk: what lines answer that change nothing, what the chip holds, and what there is.
func sight(d *Desk) string {
	var l []string
	for _, line := range []string{"df", "tree /", "ls /", "ls /d", "stat /a", "stat /b", "stat /d", "stat /d/b"} {
		l = append(l, d.Line(line))
	}
	for h := range 3 {
		l = append(l, d.Line(fmt.Sprintf("seek %d 0 1", h)))
	}
	pages, bad, wear := d.chip.Dump()
	return fmt.Sprintln(strings.Join(l, "\n"), pages, bad, wear, d.chip.Up(), d.chip.Strokes(), d.files != nil, d.faults)
}

// runs fails the test, if a script answers something else.
func runs(t *testing.T, script, want string, refused api.Errno) {
	t.Helper()
	got, e := Run(script)
	if got != want || e != refused {
		t.Errorf("Run of %d bytes: %q, %d, not %q, %d", len(script), got, e, want, refused)
	}
}
