package guard

import (
	"fmt"
	"testing"

	"cuneiform/api"
	"cuneiform/ecc"
	"cuneiform/fs"
	"cuneiform/nand"
)

// twins are two file systems on two chips that are alike: with the first one what the document says is done call by call, with the other one what is tested.
type twins struct {
	c [2]*nand.Chip
	f [2]*fs.FS
}

// twinsOf are two with what a file system has, which is committed by this.
func twinsOf(t *testing.T, c *nand.Chip, f *fs.FS) *twins {
	t.Helper()
	is(t, "Sync", f.Sync(), api.OK)
	x := &twins{}
	for k := range x.c {
		x.c[k] = c.Copy()
		x.f[k] = mounts(t, x.c[k])
	}
	return x
}

// both does something with both.
func (x *twins) both(do func(c *nand.Chip, f *fs.FS)) {
	for k := range x.c {
		do(x.c[k], x.f[k])
	}
}

// protects fails the test, if Protect answers or does something else than the document says.
func (x *twins) protects(t *testing.T, p, q string, n int) api.Errno {
	t.Helper()
	want, got := protectTold(x.f[0], p, q, n), Protect(x.f[1], p, q, n)
	is(t, fmt.Sprintf("Protect of %q by %q, of %d", p, q, n), got, want)
	sameChips(t, x.c[1], x.c[0])
	return got
}

// checks fails the test, if Check answers something else than the document says, or anything changes.
func (x *twins) checks(t *testing.T, p, q string) (ecc.Fixed, api.Errno) {
	t.Helper()
	want, _, e := examineTold(x.f[0], p, q)
	strokes := x.c[1].Strokes()
	got, err := Check(x.f[1], p, q)
	if got != want || err != e {
		t.Errorf("Check of %q by %q: %+v, %d, not %+v, %d", p, q, got, err, want, e)
	}
	if x.c[1].Strokes() != strokes {
		t.Error("Check used the chip")
	}
	return got, err
}

// mends fails the test, if Mend answers or does something else than the document says.
func (x *twins) mends(t *testing.T, p, q string) (ecc.Fixed, api.Errno) {
	t.Helper()
	want, e := mendTold(x.f[0], p, q)
	got, err := Mend(x.f[1], p, q)
	if got != want || err != e {
		t.Errorf("Mend of %q by %q: %+v, %d, not %+v, %d", p, q, got, err, want, e)
	}
	sameChips(t, x.c[1], x.c[0])
	return got, err
}

// alike fails the test, if the two hold something else. Those whose power is gone are started and mounted.
func (x *twins) alike(t *testing.T) {
	t.Helper()
	for k, c := range x.c {
		if !c.Up() {
			c.Start()
			x.f[k] = mounts(t, c)
		}
	}
	if a, b := holds(t, x.f[1]), holds(t, x.f[0]); a != b {
		t.Errorf("there is\n%s\nnot\n%s", a, b)
	}
}
