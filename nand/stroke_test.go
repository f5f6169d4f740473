package nand

import (
	"bytes"
	"math"
	"slices"
	"testing"

	"cuneiform/api"
)

// script sets a chip's faults.
func script(t *testing.T, c *Chip, l ...api.Fault) {
	t.Helper()
	is(t, "Script", c.Script(l), api.OK)
}

func TestProgram(t *testing.T) { // P2.2, P2.5, P2.7
	c := fresh(t)
	is(t, "Program of a page ahead of its turn", c.Program(0, 1, page(1)), api.ErrOrder)
	b := page(7)
	for i := range 4 {
		b[0] = byte(i)
		is(t, "Program", c.Program(3, i, b), api.OK)
		if b[0] != byte(i) || !bytes.Equal(b[1:], page(7)[1:]) {
			t.Fatal("Program changed what it was handed")
		}
		is(t, "Program of the same page", c.Program(3, i, b), api.ErrOrder)
		if l := numbers(t, c, 3); len(l) != i+1 || l[i] != i {
			t.Errorf("Pages behind %d: %v", i, l)
		}
		for n := range 4 {
			want := page(255)
			if n <= i {
				want = page(7)
				want[0] = byte(n)
			}
			reads(t, c, 3, n, want)
		}
	}
	is(t, "Program of the last page again", c.Program(3, 3, b), api.ErrOrder)
	is(t, "Program of the first page of a full block", c.Program(3, 0, b), api.ErrOrder)
	is(t, "Program of bytes 255", c.Program(2, 0, page(255)), api.OK)
	is(t, "Program of a page of bytes 255", c.Program(2, 0, page(1)), api.ErrOrder)
	is(t, "Program behind a page of bytes 255", c.Program(2, 1, page(1)), api.OK)
	if c.Strokes() != 6 || c.Wear(3) != 0 {
		t.Error("Strokes, Wear:", c.Strokes(), c.Wear(3))
	}
	for i := range 3 {
		c.Program(4, i, page(byte(i)))
	}
	is(t, "Program of a page that is left over", c.Program(4, 1, page(9)), api.ErrOrder)
	reads(t, c, 4, 1, page(1))
}

func TestProgramOfWhatMayNotBe(t *testing.T) { // P2.2, P2.6
	c := fresh(t, 5)
	is(t, "Program", c.Program(0, 0, page(1)), api.OK)
	for _, at := range [][2]int{{-1, 0}, {8, 0}, {0, -1}, {0, 4}, {math.MaxInt, 0}, {0, math.MinInt}, {5, 4}} {
		is(t, "Program of no page", c.Program(at[0], at[1], page(1)), api.ErrPlace)
		is(t, "Program of no page, of too few bytes", c.Program(at[0], at[1], nil), api.ErrPlace)
	}
	for _, n := range []int{0, 1, 64, width - 1, width + 1, 512 + 32} {
		is(t, "Program of another number of bytes", c.Program(0, 1, make([]byte, n)), api.ErrArg)
		is(t, "the same of a bad block", c.Program(5, 0, make([]byte, n)), api.ErrArg)
		is(t, "the same out of order", c.Program(0, 0, make([]byte, n)), api.ErrArg)
	}
	is(t, "Program of a bad block", c.Program(5, 0, page(1)), api.ErrBad)
	is(t, "Program of a bad block out of order", c.Program(5, 1, page(1)), api.ErrBad)
	for _, n := range []int{0, 2, 3} {
		is(t, "Program out of order", c.Program(0, n, page(1)), api.ErrOrder)
	}
	c.Lose()
	for _, at := range [][2]int{{0, 1}, {0, 0}, {5, 0}, {-1, -1}} {
		is(t, "Program of a chip that is down", c.Program(at[0], at[1], page(1)), api.ErrDown)
		is(t, "the same of too few bytes", c.Program(at[0], at[1], nil), api.ErrDown)
	}
	c.Start()
	if c.Strokes() != 1 {
		t.Error("what was refused was counted:", c.Strokes())
	}
	if l := numbers(t, c, 0); !slices.Equal(l, []int{0}) {
		t.Error("what was refused changed the pages:", l)
	}
	is(t, "Program of the next page", c.Program(0, 1, page(1)), api.OK)
}

func TestErase(t *testing.T) { // P2.2, P2.5, P2.6
	c := fresh(t, 5)
	for i := range 4 {
		c.Program(0, i, page(byte(i)))
		c.Program(1, i, page(byte(i)))
	}
	is(t, "Erase", c.Erase(0), api.OK)
	if c.Wear(0) != 1 || c.Wear(1) != 0 || c.Strokes() != 9 {
		t.Error("Wear, Strokes:", c.Wear(0), c.Wear(1), c.Strokes())
	}
	for i := range 4 {
		reads(t, c, 0, i, page(255))
		reads(t, c, 1, i, page(byte(i)))
	}
	if l := numbers(t, c, 0); len(l) != 0 {
		t.Error("Pages of a block that was erased:", l)
	}
	is(t, "Program of a later page", c.Program(0, 1, page(1)), api.ErrOrder)
	is(t, "Program of the first page", c.Program(0, 0, page(1)), api.OK)
	is(t, "Erase again", c.Erase(0), api.OK)
	is(t, "Erase of an erased block", c.Erase(0), api.OK)
	if c.Wear(0) != 3 {
		t.Error("Wear:", c.Wear(0))
	}
	was := c.Strokes()
	for _, k := range []int{-1, 8, math.MaxInt, math.MinInt} {
		is(t, "Erase of no block", c.Erase(k), api.ErrPlace)
	}
	is(t, "Erase of a bad block", c.Erase(5), api.ErrBad)
	c.Mark(1)
	is(t, "Erase of a block that was marked", c.Erase(1), api.ErrBad)
	reads(t, c, 1, 3, page(3))
	c.Lose()
	for _, k := range []int{0, 5, -1} {
		is(t, "Erase of a chip that is down", c.Erase(k), api.ErrDown)
	}
	if c.Strokes() != was || c.Wear(5) != 0 || c.Wear(1) != 0 || c.Wear(0) != 3 {
		t.Error("what was refused changed something")
	}
}

func TestAhead(t *testing.T) { // P2.2
	c := fresh(t)
	c.Program(0, 0, page(1))
	script(t, c, api.Fault{At: 0, Kind: api.Ahead, Data: []byte{9, 9}}, api.Fault{At: 1, Kind: api.Ahead, Data: []byte{9, 9}})
	is(t, "Program", c.Program(0, 1, page(2)), api.ErrDown)
	if c.Up() || c.Strokes() != 2 {
		t.Error("Up, Strokes:", c.Up(), c.Strokes())
	}
	is(t, "Program of a chip that is down", c.Program(0, 1, page(2)), api.ErrDown)
	c.Start()
	if l := numbers(t, c, 0); !slices.Equal(l, []int{0}) {
		t.Error("Pages:", l)
	}
	is(t, "Erase", c.Erase(0), api.ErrDown)
	if c.Up() || c.Strokes() != 3 || c.Wear(0) != 0 {
		t.Error("Up, Strokes, Wear:", c.Up(), c.Strokes(), c.Wear(0))
	}
	c.Start()
	reads(t, c, 0, 0, page(1))
	is(t, "Program", c.Program(0, 1, page(2)), api.OK)
}

func TestTornPages(t *testing.T) { // P2.2
	long := bytes.Repeat([]byte{1, 2, 3, 4, 5}, 50)
	for _, kind := range []int{api.Within, api.Failed} {
		for _, n := range []int{0, 1, 63, 64, width - 1, width, width + 1, len(long)} {
			c := fresh(t)
			c.Program(0, 0, page(1))
			data := bytes.Clone(long[:n])
			script(t, c, api.Fault{At: 0, Kind: kind, Data: data})
			clear(data)
			e := c.Program(0, 1, page(2))
			if kind == api.Within {
				is(t, "Program within which the power goes", e, api.ErrDown)
			} else {
				is(t, "Program that fails", e, api.ErrFail)
			}
			if c.Up() != (kind == api.Failed) || c.Strokes() != 2 {
				t.Error("Up, Strokes:", c.Up(), c.Strokes())
			}
			c.Start()
			want := page(255)
			copy(want, long[:n])
			reads(t, c, 0, 1, want)
			reads(t, c, 0, 0, page(1))
			if l := numbers(t, c, 0); !slices.Equal(l, []int{0, 1}) {
				t.Error("Pages:", l)
			}
			is(t, "Program of what is torn", c.Program(0, 1, page(2)), api.ErrOrder)
			is(t, "Program behind what is torn", c.Program(0, 2, page(2)), api.OK)
			if c.Bad(0) || c.Wear(0) != 0 {
				t.Error("Bad, Wear:", c.Bad(0), c.Wear(0))
			}
		}
	}
}

func TestBlocksThatAreBrokenOff(t *testing.T) { // P2.2
	for _, kind := range []int{api.Within, api.Failed} {
		c := fresh(t)
		for i := range 3 {
			c.Program(6, i, page(byte(10+i)))
		}
		is(t, "Erase", c.Erase(2), api.OK)
		data := []byte{0, 1, 2, 200, 7, 8}
		script(t, c, api.Fault{At: 0, Kind: kind, Data: data})
		clear(data)
		e := c.Erase(6)
		if kind == api.Within {
			is(t, "Erase within which the power goes", e, api.ErrDown)
		} else {
			is(t, "Erase that fails", e, api.ErrFail)
		}
		if c.Up() != (kind == api.Failed) || c.Strokes() != 5 || c.Wear(6) != 1 || c.Bad(6) {
			t.Error("Up, Strokes, Wear, Bad:", c.Up(), c.Strokes(), c.Wear(6), c.Bad(6))
		}
		c.Start()
		for i, want := range []byte{10, 255, 2, 200} {
			reads(t, c, 6, i, page(want))
		}
		if l := numbers(t, c, 6); !slices.Equal(l, []int{0, 2, 3}) {
			t.Error("Pages:", l)
		}
		for i := range 4 {
			is(t, "Program of a block that is broken off", c.Program(6, i, page(1)), api.ErrOrder)
		}
		is(t, "Erase of a block that is broken off", c.Erase(6), api.OK)
		if l := numbers(t, c, 6); len(l) != 0 || c.Wear(6) != 2 {
			t.Error("Pages, Wear:", l, c.Wear(6))
		}
		is(t, "Program of a block that is whole again", c.Program(6, 0, page(1)), api.OK)
	}
}

func TestBrokenOffWithFewData(t *testing.T) { // P2.2
	for _, data := range [][]byte{nil, {}, {1}, {1, 1, 1, 1}, {0, 0, 255}} {
		c := fresh(t)
		for i := range 2 {
			c.Program(0, i, page(byte(10+i)))
		}
		script(t, c, api.Fault{At: 0, Kind: api.Failed, Data: data}, api.Fault{At: 1, Kind: api.Failed})
		is(t, "Erase", c.Erase(0), api.ErrFail)
		var want []int
		for i := range 4 {
			bytesOf, there := page(255), false
			if i < 2 {
				bytesOf, there = page(byte(10+i)), true
			}
			if i < len(data) && data[i] == 1 {
				bytesOf, there = page(255), false
			} else if i < len(data) && data[i] != 0 {
				bytesOf, there = page(data[i]), true
			}
			reads(t, c, 0, i, bytesOf)
			if there {
				want = append(want, i)
			}
		}
		if l := numbers(t, c, 0); !slices.Equal(l, want) {
			t.Errorf("Pages with %v: %v, not %v", data, l, want)
		}
		for i := range 4 { // also where all pages are erased: it is not whole
			is(t, "Program", c.Program(0, i, page(1)), api.ErrOrder)
		}
		is(t, "Erase that fails again", c.Erase(0), api.ErrFail)
		if c.Wear(0) != 2 {
			t.Error("Wear:", c.Wear(0))
		}
		is(t, "Program", c.Program(0, len(want), page(1)), api.ErrOrder)
		is(t, "Erase", c.Erase(0), api.OK)
		is(t, "Program", c.Program(0, 0, page(1)), api.OK)
	}
}

func TestFaultsOfOtherKinds(t *testing.T) { // P2.2
	for _, kind := range []int{0, 4, -1, 255, math.MaxInt, math.MinInt} {
		c := fresh(t)
		script(t, c,
			api.Fault{At: 0, Kind: kind, Data: []byte{1}}, api.Fault{At: 0, Kind: api.Within},
			api.Fault{At: 1, Kind: kind, Data: []byte{7}}, api.Fault{At: 1, Kind: api.Failed})
		is(t, "Program", c.Program(0, 0, page(5)), api.OK)
		reads(t, c, 0, 0, page(5))
		is(t, "Erase", c.Erase(0), api.OK)
		reads(t, c, 0, 0, page(255))
		is(t, "Program behind", c.Program(0, 0, page(6)), api.OK)
		if !c.Up() || c.Strokes() != 3 || c.Wear(0) != 1 {
			t.Error("Up, Strokes, Wear:", c.Up(), c.Strokes(), c.Wear(0))
		}
	}
}

func TestWhichFaultHolds(t *testing.T) { // P2.2, P2.4, P2.6
	c := fresh(t, 7)
	c.Program(0, 0, page(1))
	script(t, c,
		api.Fault{At: 3, Kind: api.Failed, Data: []byte{33}},
		api.Fault{At: 1, Kind: api.Failed, Data: []byte{11}},
		api.Fault{At: 1, Kind: api.Ahead},
		api.Fault{At: 3, Kind: api.Within, Data: []byte{34}},
		api.Fault{At: 9, Kind: api.Ahead})
	is(t, "stroke 0", c.Erase(1), api.OK)
	// What is refused is no stroke: it moves no fault.
	is(t, "no stroke", c.Program(0, 3, page(1)), api.ErrOrder)
	is(t, "no stroke", c.Erase(7), api.ErrBad)
	is(t, "no stroke", c.Erase(8), api.ErrPlace)
	is(t, "no stroke", c.Program(0, 1, nil), api.ErrArg)
	is(t, "no stroke", c.Mark(6), api.OK)
	reads(t, c, 0, 1, page(255))
	is(t, "stroke 1", c.Program(0, 1, page(2)), api.ErrFail)
	is(t, "stroke 2", c.Program(0, 2, page(3)), api.OK)
	is(t, "stroke 3", c.Program(0, 3, page(4)), api.ErrFail)
	for i, want := range []byte{1, 11, 3, 33} {
		if b, _ := c.Read(0, i); b[0] != want {
			t.Errorf("the page %d: %d, not %d", i, b[0], want)
		}
	}
	if !c.Up() || c.Strokes() != 5 {
		t.Error("Up, Strokes:", c.Up(), c.Strokes())
	}
}

func TestScript(t *testing.T) { // P2.4
	c := fresh(t)
	l := []api.Fault{{At: 1, Kind: api.Within, Data: []byte{5, 6}}}
	is(t, "Script", c.Script(l), api.OK)
	l[0] = api.Fault{At: 0, Kind: api.Failed}
	is(t, "Program", c.Program(0, 0, page(1)), api.OK)
	// Refused: the faults and their numbers stay.
	for _, at := range []int{-1, math.MinInt} {
		is(t, "Script of a number below 0", c.Script([]api.Fault{{At: 5}, {At: at}}), api.ErrArg)
	}
	is(t, "Program", c.Program(0, 1, page(1)), api.ErrDown)
	// Another script, of a chip that is down: counted anew, and in the place of the first one.
	script(t, c, api.Fault{At: 0, Kind: api.Failed, Data: []byte{8}})
	c.Start()
	is(t, "Program", c.Program(0, 2, page(1)), api.ErrFail)
	is(t, "Program", c.Program(0, 3, page(1)), api.OK)
	if c.Strokes() != 4 {
		t.Error("Strokes:", c.Strokes())
	}
	// None: nothing goes wrong any more.
	script(t, c, api.Fault{At: 0, Kind: api.Failed}, api.Fault{At: math.MaxInt, Kind: api.Failed})
	script(t, c)
	for k := range 8 {
		is(t, "Erase", c.Erase(k), api.OK)
	}
	if c.Strokes() != 12 {
		t.Error("Strokes:", c.Strokes())
	}
}

func TestScriptOfTheLargestPage(t *testing.T) { // P2.2
	c, e := New(geo(8, 32, 512), nil)
	if e != api.OK {
		t.Fatal("New:", e)
	}
	data := make([]byte, 600)
	for i := range data {
		data[i] = byte(i)
	}
	script(t, c, api.Fault{At: 0, Kind: api.Failed, Data: data}, api.Fault{At: 1, Kind: api.Failed, Data: data})
	is(t, "Program", c.Program(0, 0, make([]byte, 544)), api.ErrFail)
	reads(t, c, 0, 0, data[:544])
	is(t, "Erase", c.Erase(0), api.ErrFail)
	for i := 2; i < 32; i++ {
		reads(t, c, 0, i, bytes.Repeat([]byte{byte(i)}, 544))
	}
	reads(t, c, 0, 0, data[:544])
	if l := numbers(t, c, 0); len(l) != 31 || l[1] != 2 {
		t.Error("Pages:", l)
	}
}

func TestCopyGoesOnAsTheChip(t *testing.T) { // P2.8
	c := fresh(t)
	script(t, c,
		api.Fault{At: 1, Kind: api.Failed, Data: []byte{1, 0, 9}},
		api.Fault{At: 4, Kind: api.Failed, Data: []byte{4}},
		api.Fault{At: 5, Kind: api.Within, Data: []byte{5}})
	is(t, "Program", c.Program(0, 0, page(1)), api.OK)
	is(t, "Erase", c.Erase(0), api.ErrFail)
	d := c.Copy()
	for _, x := range []*Chip{c, d} {
		is(t, "Program of a block that is broken off", x.Program(0, 3, page(1)), api.ErrOrder)
		is(t, "Erase", x.Erase(0), api.OK)
		is(t, "Program", x.Program(0, 0, page(2)), api.OK)
		is(t, "Program that fails", x.Program(0, 1, page(3)), api.ErrFail)
		is(t, "Program within which the power goes", x.Program(0, 2, page(4)), api.ErrDown)
		if x.Up() || x.Strokes() != 6 {
			t.Error("Up, Strokes:", x.Up(), x.Strokes())
		}
	}
	e := c.Copy()
	if e.Up() {
		t.Error("a copy of a chip that is down is up")
	}
	c.Start()
	d.Start()
	e.Start()
	same(t, c, d)
	same(t, c, e)
}
