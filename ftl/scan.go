package ftl

import (
	"cuneiform/api"
	"cuneiform/nand"
	"cuneiform/tag"
)

// scan is what stands on a chip.
type scan struct {
	pages []found // in order
	fresh []bool  // blocks all of whose pages are erased
	epoch []uint64
	last  uint64 // the last epoch (0, if there is no seal)
}

// found is a page of the chip that holds a logical page or a seal.
type found struct {
	at  place
	tag api.Tag
}

// isSome tells whether a valid page holds a logical page or a seal.
func isSome(t api.Tag) bool {
	return t.Kind == api.KPage && t.Page > seal || t.Kind == api.KSeal && t.Page == seal
}

// look reads each page of a chip once, but those of bad blocks.
func look(c *nand.Chip) (*scan, api.Errno) {
	g := c.Geo()
	s := &scan{fresh: make([]bool, g.Blocks), epoch: make([]uint64, g.Blocks)}
blocks:
	for k := range g.Blocks {
		if c.Bad(k) {
			continue blocks
		}
		s.fresh[k] = true
	pages:
		for i := range g.Pages {
			b, e := c.Read(k, i)
			if e != api.OK {
				return nil, e
			}
			t, _, e := tag.Read(b)
			if e == api.ErrErased {
				continue pages
			}
			s.fresh[k] = false
			if e != api.OK {
				continue pages
			}
			s.epoch[k] = max(s.epoch[k], t.Epoch)
			if !isSome(t) {
				continue pages
			}
			s.pages = append(s.pages, found{place{k, i}, t})
			if t.Kind == api.KSeal {
				s.last = max(s.last, t.Epoch)
			}
		}
	}
	return s, api.OK
}

// greatest are the greatest Seq and the greatest Epoch.
func (s *scan) greatest() (uint64, uint64) {
	var seq, epoch uint64
	for _, p := range s.pages {
		seq = max(seq, p.tag.Seq)
		epoch = max(epoch, p.tag.Epoch)
	}
	return seq, epoch
}

// counts tells whether a page may be what is sealed.
func (s *scan) counts(t api.Tag) bool {
	if t.Kind == api.KSeal {
		return t.Epoch == s.last
	}
	return t.Epoch <= s.last
}

// newest are the greatest Seq of each page of those that count, and of the seal.
func (s *scan) newest() map[uint32]uint64 {
	newest := map[uint32]uint64{}
	for _, p := range s.pages {
		if s.counts(p.tag) {
			newest[p.tag.Page] = max(newest[p.tag.Page], p.tag.Seq)
		}
	}
	return newest
}

// sealed are the places of what is sealed, newest being the Seq of each.
func (s *scan) sealed(newest map[uint32]uint64) map[uint32]place {
	var l []found
	for _, p := range s.pages {
		if s.counts(p.tag) && p.tag.Seq == newest[p.tag.Page] {
			l = append(l, p)
		}
	}
	in := make([]int, len(s.fresh))
	for _, p := range l {
		in[p.at.block]++
	}
	sealed := map[uint32]place{}
	for _, p := range l {
		// A page that was copied stands twice, if the power went: the block that holds more is left as it is.
		at, ok := sealed[p.tag.Page]
		if !ok || in[p.at.block] > in[at.block] {
			sealed[p.tag.Page] = p.at
		}
	}
	return sealed
}

// Open is the translation that a chip holds.
func Open(c *nand.Chip) (*FTL, api.Errno) {
	switch {
	case c == nil:
		return nil, api.ErrNil
	case !c.Up():
		return nil, api.ErrDown
	}
	s, e := look(c)
	if e != api.OK {
		return nil, e
	}
	seq, epoch := s.greatest()
	if s.last == 0 || seq > most || epoch > most {
		return nil, api.ErrCorrupt
	}
	newest := s.newest()
	sealed := s.sealed(newest)
	f, e := fromSeal(c, sealed[seal])
	if e != api.OK {
		return nil, e
	}
	for page := range sealed {
		if int(page) >= f.capacity {
			delete(sealed, page)
		}
	}
	f.sealed, f.seq, f.epoch = sealed, seq, epoch
	f.suspect(s, newest)
	live := make([]int, c.Geo().Blocks)
	for _, at := range sealed {
		live[at.block]++
	}
	f.stuck = allHold(c, live)
	if e = f.manage(s.fresh, live); e != api.OK {
		return nil, e
	}
	return f, api.OK
}

// fromSeal is a translation without pages, as a seal tells of it.
func fromSeal(c *nand.Chip, at place) (*FTL, api.Errno) {
	b, e := c.Read(at.block, at.page)
	if e != api.OK {
		return nil, e
	}
	_, payload, e := tag.Read(b)
	if e != api.OK {
		return nil, e
	}
	reserve, bad := int(payload[0])|int(payload[1])<<8, int(payload[2])|int(payload[3])<<8
	zero := payload[4]|payload[5]|payload[6]|payload[7] == 0
	if reserve == 0 || !zero || badBlocks(c) < bad || dataBlocks(c.Geo(), bad, reserve) < 2 {
		return nil, api.ErrCorrupt
	}
	f := translation(c, reserve, bad)
	f.text = append(f.text, payload[head:]...)
	return f, api.OK
}

// suspect notes the blocks that hold what is not to come back: what was written and never sealed, as far as the chip tells it.
func (f *FTL) suspect(s *scan, newest map[uint32]uint64) {
	for k, epoch := range s.epoch {
		f.later[k] = epoch > s.last
	}
	for _, p := range s.pages {
		page := p.tag.Page
		if _, ok := f.sealed[page]; ok && page != seal && s.counts(p.tag) && p.tag.Seq < newest[page] {
			f.strays[p.at.block] = append(f.strays[p.at.block], page)
		}
	}
}

// allHold tells whether each block that is not bad holds something sealed.
func allHold(c *nand.Chip, live []int) bool {
	for k, n := range live {
		if n == 0 && !c.Bad(k) {
			return false
		}
	}
	return true
}
