package nand

import (
	"bytes"
	"cuneiform/api"
)

// Script sets the faults.
func (c *Chip) Script(l []api.Fault) api.Errno {
	if c == nil {
		return api.ErrNil
	}
	for _, f := range l {
		if f.At < 0 {
			return api.ErrArg
		}
	}
	c.faults = c.kept(l)
	c.since = 0
	return api.OK
}

// kept are faults of the chip's own, without the data that no stroke asks for.
func (c *Chip) kept(l []api.Fault) []api.Fault {
	own := make([]api.Fault, len(l))
	for i, f := range l {
		f.Data = bytes.Clone(f.Data[:min(len(f.Data), c.width())])
		own[i] = f
	}
	return own
}

// stroke begins a stroke, and finds the fault that belongs to it (one of no kind, if none does).
func (c *Chip) stroke() api.Fault {
	n := c.since
	c.since++
	c.strokes++
	var found api.Fault
look:
	for _, f := range c.faults {
		switch f.At {
		case n:
			// Of whatever kind: it keeps those behind it away.
			found = f
			break look
		}
	}
	return found
}

// end ends a stroke as a fault of that kind lets it end.
func (c *Chip) end(kind int) api.Errno {
	switch kind {
	case api.Ahead, api.Within:
		c.up = false
		return api.ErrDown
	case api.Failed:
		return api.ErrFail
	}
	return api.OK
}

// Program programs a page.
func (c *Chip) Program(k, page int, data []byte) api.Errno {
	b, e := c.reachPage(k, page)
	switch {
	case e != api.OK:
		return e
	case len(data) != c.width():
		return api.ErrArg
	case b.bad:
		return api.ErrBad
	case b.broken || page != b.next():
		return api.ErrOrder
	}
	f := c.stroke()
	switch f.Kind {
	case api.Ahead:
	case api.Within, api.Failed:
		b.pages[page] = torn(c.width(), f.Data)
	default:
		b.pages[page] = bytes.Clone(data)
	}
	return c.end(f.Kind)
}

// Erase erases a block.
func (c *Chip) Erase(k int) api.Errno {
	b, e := c.reach(k)
	switch {
	case e != api.OK:
		return e
	case b.bad:
		return api.ErrBad
	}
	f := c.stroke()
	switch f.Kind {
	case api.Ahead:
	case api.Within, api.Failed:
		b.breakOff(c.width(), f.Data)
	default:
		b.erase()
	}
	return c.end(f.Kind)
}

// torn is what is torn: n bytes.
func torn(n int, data []byte) []byte {
	b := filled(n, 255)
	copy(b, data)
	return b
}

// erase makes a block whole, all its pages erased.
func (b *block) erase() {
	clear(b.pages)
	b.broken = false
	b.wear++
}

// breakOff leaves a block as an erase leaves it that did not come to its end; a byte of data says of each page what became of it.
func (b *block) breakOff(width int, data []byte) {
	b.broken = true
	b.wear++
	for i := range min(len(b.pages), len(data)) {
		switch data[i] {
		case 0:
		case 1:
			b.pages[i] = nil
		default:
			b.pages[i] = filled(width, data[i])
		}
	}
}
