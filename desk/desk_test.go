package desk

import (
	"slices"
	"strings"
	"testing"

	"cuneiform/api"
)

func TestExamplesOfTheWhole(t *testing.T) { // P16.1, W7
	bench(t, `
		mount => error 3
		foo => error 90
		chip 16 8 64 => ok
		mount => error 80
		format 2 => ok
		mount => ok
		df => pages 0 of 36 inodes 1 of 4
		ls / => names
		open /a 7 => handle 0
		fill 0 100 7 => wrote 100
		stat /a => inode 2 kind 1 links 1 size 100 pages 2
		seek 0 98 0 => at 98
		read 0 9 => bytes 0707
		mkdir /d => ok
		link /a /d/b => ok
		rename /a /c => ok
		tree / => paths /d /d/b /c
		rmdir /d => error 64
		unlink /d => error 63
		rename /d /d/e => error 70
		sync => ok
		unlink /c => ok
		lose => ok
		ls / => error 4
		start => ok
		mount => ok
		ls / => names d c
		read 0 9 => error 65
		truncate /c 0 => ok
		df => pages 2 of 36 inodes 3 of 4
		open /d 1 => error 63`)
}

func TestExamplesOfTheChapter(t *testing.T) { // P16.1
	bench(t, `
		mount => error 3
		chip 16 8 64 => ok
		mount => error 80
		format 2 => ok
		mount => ok
		open /a 7 => handle 0
		write 0 78 => wrote 1
		ls / => names a`)
}

func TestChip(t *testing.T) { // P16.1
	d := bench(t, noChip)
	if d.chip != nil || d.files != nil {
		t.Error("a new desk has something")
	}
	plays(t, d, `
		chip 7 8 64 => error 1
		chip 129 8 64 => error 1
		chip 8 3 64 => error 1
		chip 8 33 64 => error 1
		chip 8 4 63 => error 1
		chip 8 4 0 => error 1
		chip -8 -4 -64 => error 1
		chip 9223372036854775807 9223372036854775807 9223372036854775807 => error 1
		chip -9223372036854775808 4 64 => error 1
		lose => error 3
		chip 8 4 64 => ok
		lose => ok
		chip 128 32 512 => ok`)
	if g := d.chip.Geo(); g != (api.Geo{Blocks: 128, Pages: 32, Size: 512}) {
		t.Error("Geo:", g)
	}
	if !d.chip.Up() || d.chip.Strokes() != 0 {
		t.Error("it is no new chip")
	}
	// There is no file system any more; but where the chip is refused, nothing changes.
	d = bench(t, some)
	before := sight(d)
	plays(t, d, "chip 16 8 65 => error 1")
	same(t, "behind a chip that is refused", sight(d), before)
	plays(t, d, `
		chip 22 8 64 => ok
		ls / => error 3
		unmount => error 3
		mount => error 80
		format 2 => ok
		mount => ok
		ls / => names`)
}

func TestBad(t *testing.T) { // P16.1
	d := bench(t, "bad 0 => error 3", noFiles, `
		bad 0 => ok
		bad 15 => ok
		bad 15 => ok
		bad 16 => error 12
		bad -1 => error 12
		bad 9223372036854775807 => error 12
		format 2 => ok
		mount => ok
		df => pages 0 of 20 inodes 1 of 4`)
	for k := range 16 {
		if d.chip.Bad(k) != (k == 0 || k == 15) {
			t.Error("block", k)
		}
	}
	plays(t, d, `
		bad 7 => ok
		format 2 => error 40
		lose => ok
		bad 3 => error 4
		bad 16 => error 4`)
}

func TestPower(t *testing.T) { // P16.1
	bench(t, "lose => error 3", "start => error 3", noFiles, `
		lose => ok
		lose => ok
		format 2 => error 4
		mount => error 4
		start => ok
		start => ok
		mount => error 80
		format 2 => ok
		mount => ok
		mkdir /a => ok
		sync => ok
		mkdir /b => ok
		lose => ok
		ls / => error 4
		mkdir /c => error 4
		sync => error 4
		mount => error 4
		ls / => error 4
		start => ok
		mount => ok
		ls / => names a`)
}

func TestFormat(t *testing.T) { // P16.1
	bench(t, "format 2 => error 3", noFiles, `
		format 0 => error 1
		format -1 => error 1
		format 9223372036854775807 => error 1
		format 2 => ok
		ls / => error 3
		mount => ok
		mkdir /a => ok
		sync => ok
		format 2 => ok
		ls / => error 3
		mount => ok
		ls / => names`)
	// There is no file system any more, also where it is refused; what was synced is mounted again.
	bench(t, some, `
		sync => ok
		format 0 => error 1
		ls / => error 3
		df => error 3
		mount => ok
		ls / => names a d
		lose => ok
		format 2 => error 4
		ls / => error 3
		start => ok
		ls / => error 3
		mount => ok
		ls / => names a d`)
	// A chip that is too small, and one of which more fails than the reserve has.
	bench(t, `
		chip 8 4 64 => ok
		format 1 => error 40
		format 32768 => error 40
		format 32769 => error 1
		mount => error 80`)
	bench(t, noFiles, "fault 16 3 - => ok", "fault 17 3 - => ok", "format 1 => error 41", "ls / => error 3")
}

func TestMountAndUnmount(t *testing.T) { // P16.1
	bench(t, "mount => error 3", "unmount => error 3", noFiles, "mount => error 80", "unmount => error 3")
	d := bench(t, some, `
		unmount => ok
		unmount => error 3
		ls / => error 3
		open /a 99 => error 3
		mount => ok
		tree / => paths /a /d /d/b /d/e
		read 0 9 => error 65
		open /a 1 => handle 0
		read 0 9 => bytes 616263`)
	// Mounted anew: what was not committed is gone, and no handle is open. Refused: what was mounted stays.
	plays(t, d, `
		mkdir /f => ok
		mount => ok
		ls / => names a d
		read 0 9 => error 65
		lose => ok
		mount => error 4
		ls / => error 4
		unmount => error 4
		ls / => error 3
		unmount => error 3
		start => ok
		ls / => error 3
		mount => ok
		ls / => names a d`)
}

func TestOpenAndClose(t *testing.T) { // P16.1
	d := bench(t, empty, `
		open /a 1 => error 60
		open /a 0 => error 1
		open /a 64 => error 1
		open /a -1 => error 1
		open /a 9223372036854775807 => error 1
		open /a 5 => handle 0
		open /a 15 => error 61
		open /a 3 => handle 1
		open a 7 => error 30
		open /. 7 => error 31
		open / 7 => error 72
		open /b/c 7 => error 60
		open /a/c 7 => error 62
		close 0 => ok
		close 0 => error 65
		close -1 => error 65
		close 16 => error 65
		close 9223372036854775807 => error 65
		open /a 2 => handle 0`)
	for h := range 14 {
		if got, want := d.Line("open /a 1"), answer(api.OK, "handle", []string{"2", "3", "4", "5", "6", "7", "8", "9", "10", "11", "12", "13", "14", "15"}[h]); got != want {
			t.Error("open:", got, want)
		}
	}
	plays(t, d, "open /a 1 => error 66", "close 15 => ok", "open /a 1 => handle 15")
}

func TestReadAndWrite(t *testing.T) { // P16.1
	long := strings.Repeat("5a", 1024)
	bench(t, empty, `
		open /a 7 => handle 0
		open /a 1 => handle 1
		open /a 34 => handle 2
		read 0 9 => bytes -
		write 0 - => wrote 0
		write 0 00ff0a => wrote 3
		read 1 0 => bytes -
		read 1 2 => bytes 00ff
		read 1 1024 => bytes 0a
		read 1 1024 => bytes -
		read 1 -1 => error 1
		read 1 1025 => error 1
		read 2 1 => error 73
		read 3 1 => error 65
		write 1 00 => error 73
		write 3 00 => error 65
		write 2 6162 => wrote 2
		read 1 9 => bytes 6162
		seek 1 0 0 => at 0
		write 0 0123456789abcdef => wrote 8
		read 1 99 => bytes 00ff0a0123456789abcdef
		truncate /a 0 => ok
		seek 0 0 0 => at 0
		seek 1 0 0 => at 0
		write 0 `+long+` => wrote 1024
		write 0 `+long+`5a => error 1
		read 1 1024 => bytes `+long+`
		seek 0 4611686018427387904 0 => error 1
		seek 0 1099511627776 0 => at 1099511627776
		write 0 00 => error 69`)
}

func TestFill(t *testing.T) { // P16.1
	bench(t, "fill 0 1 1 => error 3", "fill 0 2001 1 => error 90", empty, `
		fill 0 1 1 => error 65
		open /a 7 => handle 0
		open /a 1 => handle 1
		fill 0 0 7 => wrote 0
		fill 0 3 0 => wrote 3
		fill 0 2 255 => wrote 2
		fill 0 1 16 => wrote 1
		fill 0 1024 1 => wrote 1024
		fill 0 1025 1 => error 1
		fill 0 2000 1 => error 1
		fill 0 2001 1 => error 90
		fill 0 -1 1 => error 90
		fill 0 9223372036854775807 1 => error 90
		fill 0 1 -1 => error 90
		fill 0 1 256 => error 90
		fill 0 1 9223372036854775807 => error 90
		fill 1 1 1 => error 73
		fill 2 1 1 => error 65
		fill 2 2001 1 => error 90
		read 1 6 => bytes 000000ffff10
		stat /a => inode 2 kind 1 links 1 size 1030 pages 18`)
}

func TestSeek(t *testing.T) { // P16.1
	bench(t, some, `
		seek 0 0 1 => at 3
		seek 0 2 0 => at 2
		seek 0 5 1 => at 7
		seek 0 -8 1 => error 1
		seek 0 -7 1 => at 0
		seek 0 -1 2 => at 2
		read 0 9 => bytes 63
		seek 0 0 3 => error 1
		seek 0 0 -1 => error 1
		seek 0 1099511627776 0 => at 1099511627776
		seek 0 1099511627777 0 => error 1
		seek 0 9223372036854775807 2 => error 1
		seek 0 -9223372036854775808 2 => error 1
		seek 1 0 0 => error 65
		seek -1 0 0 => error 65
		seek 0 0 1 => at 1099511627776`)
}

func TestNames(t *testing.T) { // P16.1
	bench(t, empty, `
		mkdir /a => ok
		mkdir /a => error 61
		mkdir / => error 72
		mkdir a => error 30
		mkdir /abcdefghijklmn => error 31
		mkdir /abcdefghijklm => ok
		mkdir /b/c => error 60
		mkdir //a//b// => ok
		tree / => paths /a /a/b /abcdefghijklm
		tree /a => paths /a/b
		tree //a/ => paths /a/b
		tree /a/b => paths
		tree /c => paths
		tree a => paths
		ls /a => names b
		ls /a/b => names
		ls /c => error 60
		ls c => error 30
		rmdir /a => error 64
		rmdir /c => error 60
		rmdir / => error 72
		rmdir /a/b => ok
		rmdir /a/b => error 60
		open /f 6 => handle 0
		rmdir /f => error 62
		ls /f => error 62
		tree /f => paths
		unlink /a => error 63
		unlink /c => error 60
		link /f /a/g => ok
		link /f /a/g => error 61
		link /a /h => error 63
		link /h /a => error 60
		stat /f => inode 4 kind 1 links 2 size 0 pages 0
		stat /a => inode 2 kind 2 links 1 size 16 pages 1
		stat / => inode 1 kind 2 links 1 size 48 pages 1
		stat /a/h => error 60
		stat /f/g => error 62
		unlink /f => ok
		ls / => names a abcdefghijklm
		rename /a/g /abcdefghijklm => error 63
		rename /a /a/g => error 70
		rename /a /a => ok
		rename /a/g /f => ok
		rename /f /g => ok
		rename /f /g => error 60
		ls / => names a abcdefghijklm g
		rename /a /abcdefghijklm => ok
		rename /g /abcdefghijklm => error 63
		rename /abcdefghijklm /g => error 62
		tree / => paths /abcdefghijklm /g
		truncate /g 100 => ok
		truncate /g -1 => error 1
		truncate /g 9223372036854775807 => error 69
		truncate /abcdefghijklm 0 => error 63
		truncate /h 0 => error 60
		truncate g 0 => error 30
		stat /g => inode 4 kind 1 links 1 size 100 pages 0`)
}

func TestAnyWordMayBeAPath(t *testing.T) { // P16.1
	bench(t, empty, "mkdir /\x80\xff => ok", "mkdir /ä => ok", "mkdir /\t => ok", "mkdir /\x00 => error 31", "mkdir \xff => error 30", "ls /. => error 31", "ls / => names \x80\xff ä \t")
	d := bench(t, empty)
	if got := d.Line("mkdir /a\nb"); got != "ok" {
		t.Error("mkdir:", got)
	}
	if got := d.Line("tree /"); got != "paths /a\nb" {
		t.Error("tree:", got)
	}
	plays(t, d, "mkdir / "+strings.Repeat("a", 300)+" => error 90", "mkdir /"+strings.Repeat("a", 300)+" => error 30")
}

func TestDf(t *testing.T) { // P16.1
	bench(t, "df => error 3", noFiles, "df => error 3", "format 2 => ok", "df => error 3", "mount => ok", `
		df => pages 0 of 36 inodes 1 of 4
		mkdir /d => ok
		df => pages 1 of 36 inodes 2 of 4
		open /d/a 7 => handle 0
		mkdir /e => ok
		mkdir /f => error 67
		df => pages 2 of 36 inodes 4 of 4
		fill 0 512 1 => wrote 512
		df => pages 11 of 36 inodes 4 of 4`)
	// Where more fails than the reserve has, this is told behind it, and what may change it is refused.
	bench(t, some, `
		sync => ok
		mkdir /late => ok
		fault 0 3 - => ok
		fault 1 3 - => ok
		fault 2 3 - => ok
		sync => error 68
		df => pages 3 of 81 inodes 5 of 10 read-only
		mkdir /f => error 68
		fsync 0 => error 68
		ls / => names a d late
		unmount => error 68
		df => error 3`)
}

func TestSync(t *testing.T) { // P16.1
	for _, sync := range []string{"sync => ok", "fsync 0 => ok", "unmount => ok\nmount => ok\nopen /a 3 => handle 0"} {
		d := bench(t, some, sync, `
			mkdir /late => ok
			fsync 1 => error 65
			fsync -1 => error 65
			fsync 16 => error 65
			lose => ok
			sync => error 4
			fsync 0 => error 4
			start => ok
			mount => ok
			tree / => paths /a /d /d/b /d/e`)
		if d.chip.Strokes() == 0 {
			t.Error("no strokes")
		}
	}
}

func TestWhatIsNeeded(t *testing.T) { // P16.1
	chips := []string{"bad 0", "bad 99", "fault 0 1 -", "fault -1 1 -", "lose", "start", "format 2", "format 0", "mount"}
	all := []string{"unmount", "open /a 7", "open /a 0", "close 0", "read 0 1", "read 0 -1", "write 0 00", "fill 0 1 1", "fill 0 2000 1", "seek 0 0 0", "seek 0 0 9", "truncate /a 0", "truncate a 0", "mkdir /a", "mkdir a", "rmdir /a", "unlink /", "link /a /b", "link a b", "rename /a /b", "rename / /", "ls /", "ls a", "stat /", "stat a", "df", "fsync 0", "sync", "tree /", "tree a"}
	for _, line := range slices.Concat(chips, all) {
		plays(t, New(), line+" => error 3")
		plays(t, new(Desk), line+" => error 3")
	}
	for _, line := range all {
		bench(t, noFiles, line+" => error 3")
		bench(t, some, "chip 8 8 64 => ok", line+" => error 3")
		bench(t, some, "format 2 => ok", line+" => error 3")
		bench(t, some, "unmount => ok", line+" => error 3", "lose => ok", line+" => error 3")
	}
	// Also of a chip that is down.
	for _, line := range all {
		bench(t, noFiles, "lose => ok", line+" => error 3")
	}
	for _, line := range chips {
		bench(t, noChip, "chip 8 4 63 => error 1", line+" => error 3")
	}
}

func TestNilDesk(t *testing.T) { // P16.1
	var d *Desk
	for _, line := range []string{"", "chip 16 8 64", "foo", "mount", "ls /", strings.Repeat("a", 9000)} {
		if got := d.Line(line); got != "" {
			t.Errorf("%q of a nil desk: %q", line, got)
		}
	}
	plays(t, new(Desk), "mount => error 3", "chip 16 8 64 => ok", "mount => error 80")
}

func TestDesksAreApart(t *testing.T) { // P16.1
	one, other := bench(t, empty), bench(t, empty)
	plays(t, one, "mkdir /a => ok", "fault 0 1 - => ok")
	plays(t, other, "ls / => names", "sync => ok")
	plays(t, one, "ls / => names a", "sync => error 4")
}
