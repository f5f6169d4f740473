package file

import (
	"fmt"
	"strings"
	"testing"

	"cuneiform/api"
	"cuneiform/fs"
	"cuneiform/nand"
)

func fresh(t *testing.T) (*nand.Chip, *fs.FS) {
	t.Helper()
	c, _ := nand.New(api.Geo{Blocks: 44, Pages: 8, Size: 256}, nil)
	fs.Format(c, 2)
	f, e := fs.Mount(c)
	if e != api.OK {
		t.Fatal("Mount:", e)
	}
	return c, f
}

func is(t *testing.T, what string, got, want api.Errno) {
	t.Helper()
	if got != want {
		t.Errorf("%s: %d, not %d", what, got, want)
	}
}

func TestWith(t *testing.T) {
	c, f := fresh(t)
	is(t, "With", With(f, "/a", fs.Writes, func(int) api.Errno { t.Error("it is used"); return api.OK }), api.ErrNoEntry)
	for _, want := range []api.Errno{api.OK, api.ErrSpace} {
		is(t, "With", With(f, "/a", fs.Writes|fs.Creates, func(h int) api.Errno {
			if h != 0 {
				t.Error("the handle", h)
			}
			return want
		}), want)
		is(t, "Close", f.Close(0), api.ErrHandle)
	}
	// That it can not be closed is an error, too, but not the first one.
	is(t, "With", With(f, "/a", fs.Reads, f.Close), api.ErrHandle)
	is(t, "With", With(f, "/a", fs.Reads, func(h int) api.Errno { f.Close(h); return api.ErrBig }), api.ErrBig)
	is(t, "With", With(f, "/a", fs.Reads, func(int) api.Errno { c.Lose(); return api.OK }), api.ErrDown)
	is(t, "With", With(nil, "/a", fs.Reads, nil), api.ErrNil)
}

// pieces is what Pieces hands on of a text, as a text.
func pieces(t *testing.T, f *fs.FS, text string) string {
	t.Helper()
	is(t, "to write", With(f, "/a", fs.Writes|fs.Creates|fs.Cuts, func(h int) api.Errno {
		for from := 0; from < len(text); from += Piece {
			if e := Put(f, h, int64(from), []byte(text[from:min(from+Piece, len(text))])); e != api.OK {
				return e
			}
		}
		return api.OK
	}), api.OK)
	s := ""
	is(t, "to read", With(f, "/a", fs.Reads, func(h int) api.Errno {
		return Pieces(f, h, func(at int64, b []byte) api.Errno {
			if string(b) != text[at:at+int64(len(b))] {
				t.Error("at", at, "there are other bytes")
			}
			s += fmt.Sprint(at, "+", len(b), " ")
			return api.OK
		})
	}), api.OK)
	return s
}

func TestPieces(t *testing.T) {
	_, f := fresh(t)
	x, hole := strings.Repeat("x", 1024), strings.Repeat("\x00", 1024)
	for text, want := range map[string]string{
		"":                        "",
		"x":                       "0+1 ",
		"\x00":                    "",
		x:                         "0+1024 ",
		x + "\x00":                "0+1024 ",
		x + "y":                   "0+1024 1024+1 ",
		hole + "y":                "1024+1 ",
		x + hole + x:              "0+1024 2048+1024 ",
		hole + hole[1:] + "y" + x: "1024+1024 2048+1024 ",
		x + hole + hole[:9]:       "0+1024 ",
	} {
		if got := pieces(t, f, text); got != want {
			t.Errorf("of a text of %d bytes: %s, not %s", len(text), got, want)
		}
	}
}

func TestPiecesEndWithTheFirstError(t *testing.T) {
	_, f := fresh(t)
	pieces(t, f, strings.Repeat("x", 3000))
	n := 0
	is(t, "With", With(f, "/a", fs.Reads, func(h int) api.Errno {
		return Pieces(f, h, func(int64, []byte) api.Errno {
			if n++; n == 2 {
				return api.ErrSpace
			}
			return api.OK
		})
	}), api.ErrSpace)
	if n != 2 {
		t.Error("so many were handed on:", n)
	}
	is(t, "Pieces", Pieces(f, 3, nil), api.ErrHandle)
}

func TestPut(t *testing.T) {
	_, f := fresh(t)
	is(t, "With", With(f, "/a", fs.Writes|fs.Creates, func(h int) api.Errno {
		is(t, "Put", Put(f, h, 5, []byte("abc")), api.OK)
		is(t, "Put", Put(f, h, 2, []byte("d")), api.OK)
		is(t, "Put", Put(f, h, -1, []byte("d")), api.ErrArg)
		is(t, "Put", Put(f, h, 1<<40, []byte("d")), api.ErrBig)
		return api.OK
	}), api.OK)
	h, _ := f.Open("/a", fs.Reads)
	if b, e := f.Read(h, 99); string(b) != "\x00\x00d\x00\x00abc" || e != api.OK {
		t.Errorf("there is %q, %d", b, e)
	}
	is(t, "Put", Put(f, h, 0, []byte("d")), api.ErrAccess)
}

func TestZero(t *testing.T) {
	for s, want := range map[string]bool{"": true, "\x00": true, "\x00\x00\x00": true, "\x01": false, "\x00\x00\x80": false, "\x01\x00": false} {
		if Zero([]byte(s)) != want {
			t.Errorf("Zero of %q: %v", s, !want)
		}
	}
}
