package nand

import (
	"bytes"
	"math/rand"
	"testing"

	"cuneiform/api"
)

// model is a chip as the document tells it, kept as plainly as can be.
type model struct {
	bytes                [8][4][]byte // nil: erased
	broken, bad          [8]bool
	wear                 [8]int
	up                   bool
	faults               []api.Fault
	since, strokes, read int
}

func (m *model) next(k int) int {
	next := 0
	for i, b := range m.bytes[k] {
		if b != nil {
			next = i + 1
		}
	}
	return next
}

func (m *model) fault() (int, []byte) {
	for _, f := range m.faults {
		if f.At == m.since {
			return f.Kind, f.Data
		}
	}
	return 0, nil
}

func (m *model) down(kind int) api.Errno {
	if kind == 1 || kind == 2 {
		m.up = false
		return api.ErrDown
	}
	if kind == 3 {
		return api.ErrFail
	}
	return api.OK
}

func (m *model) program(k, n int, b []byte) api.Errno {
	if !m.up {
		return api.ErrDown
	}
	if k < 0 || k > 7 || n < 0 || n > 3 {
		return api.ErrPlace
	}
	if len(b) != width {
		return api.ErrArg
	}
	if m.bad[k] {
		return api.ErrBad
	}
	if n != m.next(k) || m.broken[k] {
		return api.ErrOrder
	}
	kind, data := m.fault()
	m.since, m.strokes = m.since+1, m.strokes+1
	switch kind {
	case 2, 3:
		b = append(bytes.Clone(data), page(255)...)[:width]
		fallthrough
	default:
		m.bytes[k][n] = bytes.Clone(b)
	case 1:
	}
	return m.down(kind)
}

func (m *model) erase(k int) api.Errno {
	if !m.up {
		return api.ErrDown
	}
	if k < 0 || k > 7 {
		return api.ErrPlace
	}
	if m.bad[k] {
		return api.ErrBad
	}
	kind, data := m.fault()
	m.since, m.strokes = m.since+1, m.strokes+1
	if kind != 1 {
		m.wear[k]++
		m.broken[k] = kind == 2 || kind == 3
		if !m.broken[k] {
			data = []byte{1, 1, 1, 1}
		}
		for i, x := range data {
			if i < 4 && x == 1 {
				m.bytes[k][i] = nil
			} else if i < 4 && x > 1 {
				m.bytes[k][i] = page(x)
			}
		}
	}
	return m.down(kind)
}

func (m *model) readPage(k, n int) ([]byte, api.Errno) {
	if !m.up {
		return nil, api.ErrDown
	}
	if k < 0 || k > 7 || n < 0 || n > 3 {
		return nil, api.ErrPlace
	}
	m.read++
	if m.bytes[k][n] == nil {
		return page(255), api.OK
	}
	return m.bytes[k][n], api.OK
}

// alike fails the test, if the chip tells something else than the model does.
func (m *model) alike(t *testing.T, c *Chip, step int) {
	t.Helper()
	if c.Up() != m.up || c.Strokes() != m.strokes || c.Reads() != m.read {
		t.Fatalf("step %d: %v, %d, %d, not %v, %d, %d", step, c.Up(), c.Strokes(), c.Reads(), m.up, m.strokes, m.read)
	}
	pages, bad, wear := c.Dump()
	for k := range 8 {
		if bad[k] != m.bad[k] || c.Bad(k) != m.bad[k] || wear[k] != m.wear[k] || c.Wear(k) != m.wear[k] {
			t.Fatalf("step %d, block %d: %v, %d, not %v, %d", step, k, bad[k], wear[k], m.bad[k], m.wear[k])
		}
		there := map[int][]byte{}
		for i, b := range c.Pages(k) {
			there[i] = b
		}
		for i := range 4 {
			if !bytes.Equal(pages[4*k+i], m.bytes[k][i]) || m.up && !bytes.Equal(there[i], m.bytes[k][i]) {
				t.Fatalf("step %d, page %d of %d: %v, %v, not %v", step, i, k, pages[4*k+i], there[i], m.bytes[k][i])
			}
		}
		if !m.up && len(there) > 0 {
			t.Fatalf("step %d: pages of a chip that is down", step)
		}
	}
}

// faults are some faults, more than one with one At among them.
func faults(r *rand.Rand) []api.Fault {
	var l []api.Fault
	for range r.Intn(12) {
		data := make([]byte, r.Intn(width+5))
		for i := range data {
			data[i] = byte(r.Intn(4)) // often 0 and 1, which mean something
		}
		l = append(l, api.Fault{At: r.Intn(20), Kind: r.Intn(6) - 1, Data: data})
	}
	return l
}

// TestAsTold does whatever comes on chips and on what the document tells of them.
func TestAsTold(t *testing.T) { // W1, P2.1 to P2.8
	for seed := range int64(60) {
		r := rand.New(rand.NewSource(seed))
		c, m := fresh(t, 2), &model{up: true}
		m.bad[2] = true
		for step := range 400 {
			k, n := r.Intn(9)-r.Intn(2), r.Intn(5)-r.Intn(2)
			if k >= 0 && k < 8 && r.Intn(4) > 0 {
				n = m.next(k)
			}
			b := make([]byte, width-r.Intn(20)/19)
			r.Read(b)
			var got, want api.Errno
			switch x := r.Intn(40); {
			case x < 20:
				got, want = c.Program(k, n, b), m.program(k, n, b)
			case x < 27:
				got, want = c.Erase(k), m.erase(k)
			case x < 33:
				var p, q []byte
				p, got = c.Read(k, n)
				q, want = m.readPage(k, n)
				if !bytes.Equal(p, q) {
					t.Fatalf("seed %d, step %d: Read(%d, %d): %v, not %v", seed, step, k, n, p, q)
				}
			case x == 33 && r.Intn(8) == 0:
				got, want = c.Mark(k), api.OK
				if !m.up {
					want = api.ErrDown
				} else if k < 0 || k > 7 {
					want = api.ErrPlace
				} else {
					m.bad[k] = true
				}
			case x == 34:
				c.Lose()
				m.up = false
			case x < 38:
				c.Start()
				m.up = true
			case x == 38:
				l := faults(r)
				got = c.Script(l)
				m.faults, m.since = l, 0
			case x == 39:
				c = c.Copy()
			}
			if got != want {
				t.Fatalf("seed %d, step %d, at %d, %d: %d, not %d", seed, step, k, n, got, want)
			}
			m.alike(t, c, step)
		}
	}
}
