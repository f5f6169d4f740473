package desk

import (
	"strings"
	"testing"
)

func TestFault(t *testing.T) { // P16.1
	bench(t, "fault 0 1 - => error 3")
	// The power goes ahead of a stroke, or within it; or one fails, which is not seen.
	for _, k := range []struct{ line, sync string }{
		{"fault 0 1 -", "error 4"},
		{"fault 0 2 -", "error 4"},
		{"fault 0 2 0102ff", "error 4"},
		{"fault 0 3 -", "ok"},
		{"fault 0 3 00", "ok"},
		{"fault 0 0 -", "ok"},
		{"fault 0 4 -", "ok"},
		{"fault 0 -1 -", "ok"},
		{"fault 0 9223372036854775807 -", "ok"},
		{"fault 9223372036854775807 1 -", "ok"},
	} {
		d := bench(t, some, "sync => ok", "mkdir /late => ok", k.line+" => ok", "sync => "+k.sync)
		if up := d.chip.Up(); up != (k.sync == "ok") {
			t.Error(k.line, "up:", up)
		}
		names := "names a d late"
		if k.sync != "ok" {
			names = "names a d"
		}
		plays(t, d, "start => ok", "mount => ok", "ls / => "+names)
	}
	// A fault is told to a chip that is down, too.
	bench(t, some, "lose => ok", "fault 0 1 - => ok", "start => ok", "mount => ok", "mkdir /a => ok", "sync => error 4")
}

func TestFaultData(t *testing.T) { // P16.1
	// The first stroke of a formatting is an erase: of a block's pages one is erased, one has bytes 2, one bytes 255.
	d := bench(t, noFiles, "fault 0 2 0102ff => ok", "format 2 => error 4")
	pages, _, _ := d.chip.Dump()
	for k, want := range []int{0, 2, 255, 0} {
		some := false
		for b := range 16 {
			p := pages[8*b+k]
			some = some || want > 0 && len(p) == 96 && int(p[0]) == want && int(p[95]) == want
		}
		if some != (want > 0) {
			t.Error("page", k)
		}
	}
}

func TestAllFaultsSoFar(t *testing.T) { // P16.1
	// Each line sets all that there are, and counts strokes anew. (A sync of what did not change is one stroke.)
	d := bench(t, empty, "sync => ok")
	before := d.chip.Strokes()
	plays(t, d, "sync => ok", "sync => ok")
	if n := d.chip.Strokes() - before; n != 2 {
		t.Fatal("two syncs made so many strokes:", n)
	}
	plays(t, d, `
		fault 1 1 - => ok
		sync => ok
		fault 3 1 - => ok
		sync => ok
		sync => error 4
		start => ok
		mount => ok
		sync => ok
		sync => error 4
		start => ok
		mount => ok
		sync => ok
		sync => ok
		fault 9 0 - => ok
		sync => ok
		sync => error 4`)
	// Of several at one stroke the first one holds.
	bench(t, empty, "fault 0 0 - => ok", "fault 0 1 - => ok", "sync => ok")
	bench(t, empty, "fault 0 1 - => ok", "fault 0 0 - => ok", "sync => error 4")
	// One that is refused is none.
	bench(t, empty, "fault 0 1 - => ok", "sync => error 4", "start => ok", "mount => ok", "fault -1 1 - => error 1", "fault -9223372036854775808 1 - => error 1", "sync => ok", "fault 1 1 - => ok", "sync => error 4")
}

func TestFaultsOfANewChip(t *testing.T) { // P16.1
	// It has none at first; the next line sets all that there are so far.
	bench(t, empty, "fault 0 1 - => ok", empty, `
		sync => ok
		fault 9 0 - => ok
		sync => error 4`)
	bench(t, empty, "fault 0 1 - => ok", "chip 8 8 63 => error 1", "sync => error 4")
	bench(t, empty, "fault 0 1 - => ok", "format 2 => error 4", "start => ok", "format 2 => ok")
}

func TestSoManyFaults(t *testing.T) { // P16.1
	d := bench(t, empty)
	for range 999 {
		plays(t, d, "fault 5 9 - => ok")
	}
	plays(t, d, "fault -1 1 - => error 1", "fault 0 1 - => ok")
	before := sight(d)
	plays(t, d, "fault 0 1 - => error 2", "fault 1 9 "+strings.Repeat("00", 999)+" => error 2", "fault -1 1 - => error 2", "fault 0 1 0 => error 90", "fault 0 1 => error 90")
	same(t, "behind faults that are too many", sight(d), before)
	// The thousandth one holds, and strokes are not counted anew.
	plays(t, d, "sync => error 4", "start => ok", "mount => ok", "fault 0 1 - => error 2", "sync => ok")
}
