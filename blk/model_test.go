package blk

import (
	"bytes"
	"maps"
	"math/rand"
	"slices"
	"testing"

	"cuneiform/api"
	"cuneiform/gc"
	"cuneiform/nand"
)

// model is a manager as the document tells it, kept as plainly as can be, with a chip of its own.
type model struct {
	chip             *nand.Chip
	state, live, nxt [8]int
	reserve, bad     int
	level            bool
}

func (m *model) row() []api.Block {
	var l []api.Block
	for k := range 8 {
		l = append(l, api.Block{State: m.state[k], Live: m.live[k], Next: m.nxt[k], Wear: m.chip.Wear(k)})
	}
	return l
}

func (m *model) many(state int) int {
	n := 0
	for _, s := range m.state {
		if s == state {
			n++
		}
	}
	return n
}

func (m *model) begin() int {
	if k := slices.Index(m.state[:], 1); k >= 0 {
		return k
	}
	for wear := range 1000 { // from the least on
		for k := range 8 {
			if m.state[k] == 0 && m.chip.Wear(k) == wear {
				m.state[k], m.live[k], m.nxt[k] = 1, 0, 0
				return k
			}
		}
	}
	return -1
}

func (m *model) end(k int) {
	m.state[k] = 3
	if m.live[k] > 0 {
		m.state[k] = 2
	}
}

func (m *model) program(b []byte) (int, int, api.Errno) {
	if !m.chip.Up() {
		return 0, 0, api.ErrDown
	}
	if len(b) != width {
		return 0, 0, api.ErrArg
	}
	k := m.begin()
	if k < 0 {
		return 0, 0, api.ErrFull
	}
	n := m.nxt[k]
	switch e := m.chip.Program(k, n, b); e {
	case api.OK:
		m.nxt[k], m.live[k] = n+1, m.live[k]+1
		if n+1 == 4 {
			m.state[k] = 2
		}
		return k, n, api.OK
	case api.ErrOrder:
		m.end(k)
		return m.program(b)
	case api.ErrFail:
		m.end(k)
		return k, n, api.ErrFail
	default:
		return 0, 0, e
	}
}

func (m *model) drop(k int) api.Errno {
	if k < 0 || k > 7 || m.live[k] == 0 {
		return api.ErrArg
	}
	m.live[k]--
	if m.live[k] == 0 && m.state[k] == 2 {
		m.state[k] = 3
	}
	return api.OK
}

func (m *model) erase(k int) api.Errno {
	if !m.chip.Up() {
		return api.ErrDown
	}
	if k < 0 || k > 7 || m.state[k] == 4 || m.live[k] > 0 || m.state[k] == 1 && m.nxt[k] > 0 {
		return api.ErrArg
	}
	e := m.chip.Erase(k)
	if e == api.OK {
		m.state[k], m.nxt[k] = 0, 0
	}
	if e == api.ErrFail {
		m.chip.Mark(k)
		m.state[k], m.nxt[k] = 4, 0
	}
	return e
}

func (m *model) retire(k int) api.Errno {
	if !m.chip.Up() {
		return api.ErrDown
	}
	if k < 0 || k > 7 || m.state[k] == 4 || m.live[k] > 0 {
		return api.ErrArg
	}
	m.state[k], m.nxt[k] = 4, 0
	return m.chip.Mark(k)
}

func (m *model) room() int {
	n := 0
	for k, s := range m.state {
		if s == 0 || s == 1 {
			n += 4 - m.nxt[k]
		}
	}
	return n
}

func (m *model) next() gc.Action {
	l := m.row()
	if m.level {
		for k := range l {
			l[k].Wear = 0
		}
	}
	return gc.Next(l, 4, m.room() >= 4)
}

// alike fails the test, if the manager or its chip tells something else than the model and its chip.
func (m *model) alike(t *testing.T, b *Blocks, c *nand.Chip, seed int64, step int) {
	t.Helper()
	if got, want := blocks(t, b), m.row(); !slices.Equal(got, want) {
		t.Fatalf("seed %d, step %d: %v, not %v", seed, step, got, want)
	}
	left := m.reserve - (m.many(4) - m.bad)
	if b.Room() != m.room() || b.Free() != m.many(0) || b.Left() != left || b.Next() != m.next() {
		t.Fatalf("seed %d, step %d: %d, %d, %d, %v, not %d, %d, %d, %v", seed, step, b.Room(), b.Free(), b.Left(), b.Next(), m.room(), m.many(0), left, m.next())
	}
	if m.many(1) > 1 {
		t.Fatalf("seed %d, step %d: more than one is open", seed, step)
	}
	p, x, _ := c.Dump()
	q, y, _ := m.chip.Dump()
	if !slices.EqualFunc(p, q, bytes.Equal) || !slices.Equal(x, y) || c.Strokes() != m.chip.Strokes() || c.Up() != m.chip.Up() {
		t.Fatalf("seed %d, step %d: the chips are not alike", seed, step)
	}
}

// usedChip is a chip on which something was done, and what may be told of it.
func usedChip(t *testing.T, r *rand.Rand) (*nand.Chip, []bool, []int) {
	t.Helper()
	c := newChip(t)
	if r.Intn(2) == 0 {
		wear := make([]int, 8)
		for k := range wear {
			wear[k] = 20 + r.Intn(7)
		}
		c = wornChip(t, wear)
	}
	fresh, live := make([]bool, 8), make([]int, 8)
	for k := range 8 {
		n := r.Intn(5) * r.Intn(2)
		for i := range n {
			is(t, "the chip's Program", c.Program(k, i, page(byte(i))), api.OK)
		}
		fresh[k] = n == 0 || r.Intn(8) == 0 // now and then it is said to be, and is not
		if !fresh[k] {
			live[k] = r.Intn(n + 1)
		}
		if r.Intn(9) == 0 {
			is(t, "Mark", c.Mark(k), api.OK)
		}
	}
	return c, fresh, live
}

// start is a manager, its chip, and a model of both.
func start(t *testing.T, r *rand.Rand) (*Blocks, *nand.Chip, *model) {
	t.Helper()
	c, fresh, live := usedChip(t, r)
	m := &model{chip: c.Copy(), reserve: r.Intn(4), bad: r.Intn(3)}
	least, greatest := 1<<40, 0
	for k := range 8 {
		switch {
		case c.Bad(k):
			m.state[k] = 4
			continue
		case fresh[k]:
			m.state[k] = 0
		case live[k] > 0:
			m.state[k], m.live[k] = 2, live[k]
		default:
			m.state[k] = 3
		}
		least, greatest = min(least, c.Wear(k)), max(greatest, c.Wear(k))
	}
	m.level = greatest-least > 4
	b, e := Open(c, fresh, live, m.reserve, m.bad)
	if e != api.OK {
		t.Fatal("Open:", e)
	}
	return b, c, m
}

// trouble is a script of faults.
func trouble(r *rand.Rand) []api.Fault {
	var l []api.Fault
	for range r.Intn(6) {
		data := make([]byte, r.Intn(6))
		r.Read(data)
		l = append(l, api.Fault{At: r.Intn(40), Kind: 1 + r.Intn(3), Data: data})
	}
	return l
}

// TestAsTold does whatever comes with managers, and with what the document tells of them.
func TestAsTold(t *testing.T) { // P6.1 to P6.4, P6.6 to P6.8, P1
	for seed := range int64(300) {
		r := rand.New(rand.NewSource(seed))
		b, c, m := start(t, r)
		m.alike(t, b, c, seed, -1)
		for step := range 300 {
			k := r.Intn(10) - 1
			var got, want api.Errno
			switch x := r.Intn(40); {
			case x < 18:
				p := make([]byte, width-r.Intn(20)/19)
				r.Read(p)
				k1, n1, e1 := b.Program(p)
				k2, n2, e2 := m.program(p)
				if k1 != k2 || n1 != n2 {
					t.Fatalf("seed %d, step %d: Program: %d, %d, not %d, %d", seed, step, k1, n1, k2, n2)
				}
				got, want = e1, e2
			case x < 30:
				got, want = b.Drop(k), m.drop(k)
			case x < 36:
				got, want = b.Erase(k), m.erase(k)
			case x == 36 && r.Intn(6) == 0:
				got, want = b.Retire(k), m.retire(k)
			case x == 37 && r.Intn(4) == 0:
				c.Lose()
				m.chip.Lose()
			case x == 38:
				l := trouble(r)
				got, want = c.Script(l), m.chip.Script(l)
			case x == 39 || r.Intn(3) == 0:
				c.Start()
				m.chip.Start()
			}
			if got != want {
				t.Fatalf("seed %d, step %d, block %d: %d, not %d", seed, step, k, got, want)
			}
			m.alike(t, b, c, seed, step)
		}
	}
}

// spot is a page of the chip.
type spot struct{ block, page int }

// store keeps numbered pages by a manager, each where it was programmed last.
type store struct {
	t     *testing.T
	chip  *nand.Chip
	m     *Blocks
	where map[int]spot
	holds map[int][]byte
}

// write programs a page, and drops the one that held that number.
func (s *store) write(number int, b []byte) {
	s.t.Helper()
	k, n, e := s.m.Program(b)
	if e != api.OK {
		s.t.Fatal("Program:", e)
	}
	if old, ok := s.where[number]; ok {
		is(s.t, "Drop", s.m.Drop(old.block), api.OK)
	}
	s.where[number], s.holds[number] = spot{k, n}, b
}

// empty copies away what is needed in a block, in the numbers' order.
func (s *store) empty(k int) {
	s.t.Helper()
	for _, number := range slices.Sorted(maps.Keys(s.where)) {
		if s.where[number].block == k {
			s.write(number, s.holds[number])
		}
	}
}

// tidy does what comes next until enough blocks are free.
func (s *store) tidy(free int) {
	s.t.Helper()
	for s.m.Free() < free {
		a := s.m.Next()
		switch a.Kind {
		case gc.Nothing, gc.Force:
			s.t.Fatalf("%v of %v", a, blocks(s.t, s.m))
		case gc.Move:
			s.empty(a.Block)
		}
		is(s.t, "Erase", s.m.Erase(a.Block), api.OK)
		s.check()
	}
}

// check fails the test, if a page is not read where it was programmed last, too much is needed, or the blocks' wear is too far apart.
func (s *store) check() {
	s.t.Helper()
	for number, at := range s.where {
		if b, e := s.chip.Read(at.block, at.page); e != api.OK || !bytes.Equal(b, s.holds[number]) {
			s.t.Fatalf("the page %d: %v, %d", number, b, e)
		}
	}
	l := blocks(s.t, s.m)
	if gap := gc.Greatest(l) - gc.Least(l); gap > api.Spread {
		s.t.Fatalf("a gap of %d: %v", gap, l)
	}
	if gc.Live(l) != len(s.where) || gc.Count(l, api.SOpen) > 1 {
		s.t.Fatalf("%d pages, but %v", len(s.where), l)
	}
}

// TestBlocksWearAlike writes few pages again and again, while most stay.
func TestBlocksWearAlike(t *testing.T) { // W1, P6.4 to P6.6
	for seed := range int64(20) {
		r := rand.New(rand.NewSource(seed))
		c, m := allFresh(t)
		s := &store{t: t, chip: c, m: m, where: map[int]spot{}, holds: map[int][]byte{}}
		for i := range 2000 {
			number := r.Intn(3) // the hot ones
			if i < 18 {
				number = i
			}
			b := make([]byte, width)
			r.Read(b)
			s.tidy(2)
			s.write(number, b)
			s.check()
		}
		if least := gc.Least(blocks(t, m)); least < 30 {
			t.Errorf("seed %d: the least Wear is %d", seed, least)
		}
	}
}
