package ftl

import (
	"bytes"
	"cuneiform/api"
	"cuneiform/gc"
	"cuneiform/tag"
	"slices"
)

// row are the chip's blocks.
func (f *FTL) row() []api.Block {
	var l []api.Block
	for _, b := range f.blocks.All() {
		l = append(l, b)
	}
	return l
}

// openIn is the open block of a row (-1, if there is none).
func openIn(l []api.Block) int {
	return slices.IndexFunc(l, func(b api.Block) bool { return b.State == api.SOpen })
}

// ready does what is to be done ahead of a writing, one step behind the other; each of them may fail, and bring others with it.
func (f *FTL) ready(sealing bool) api.Errno {
steps:
	for {
		if f.ReadOnly() {
			return api.ErrReserve
		}
		k, e := f.due(sealing), api.OK
		switch {
		case len(f.failed) > 0:
			// The last one first: so none that is emptied is taken for one that may be written to.
			e = f.retire(f.failed[len(f.failed)-1])
		case f.begun:
			e = f.empty(f.block)
		case k >= 0:
			e = f.clean(k)
		case f.short():
			a := f.blocks.Next()
			if a.Kind == gc.Nothing {
				break steps
			}
			e = f.empty(a.Block)
		default:
			break steps
		}
		if e != api.OK && e != api.ErrFail {
			return e
		}
	}
	return api.OK
}

// short tells whether less blocks are free than there are to be.
func (f *FTL) short() bool {
	want := f.blocks.Left() + 1
	if openIn(f.row()) < 0 {
		want++
	}
	return f.blocks.Free() < want
}

// due is the first block that is to be cleaned ahead of a writing (-1, if there is none).
func (f *FTL) due(sealing bool) int {
	for k := range f.strays {
		if f.later[k] || sealing && f.exposes(k) {
			return k
		}
	}
	return -1
}

// exposes tells whether a block has bytes of a page that is dropped with the next seal, and that may never have been sealed: with nothing newer beside them they would be found as if they had been.
func (f *FTL) exposes(k int) bool {
	if len(f.dropped) == 0 {
		return false
	}
	return slices.ContainsFunc(f.strays[k], func(page uint32) bool {
		_, gone := f.dropped[page]
		return gone
	})
}

// clean does a step of what it takes to erase a block that has to be erased.
func (f *FTL) clean(k int) api.Errno {
	l, pages := f.row(), f.chip.Geo().Pages
	open, a := openIn(l), f.blocks.Next()
	may := f.apart || gc.May(l, pages, k)
	switch {
	case open == k:
		return f.fill()
	case open >= 0 && pages-l[open].Next < l[k].Live:
		// What is needed goes to one block: else the power might go so within the erasing that part of it is found here, part there, and no block is free.
		return f.fill()
	case !may && (a.Kind == gc.Erase || a.Kind == gc.Move || a.Kind == gc.Burn):
		return f.empty(a.Block)
	case !may && a.Kind == gc.Force && open >= 0:
		// It is the open block that wears least, and holds the others up.
		return f.fill()
	}
	return f.empty(k)
}

// fill takes a page of the open block, which can't be erased until it is full: the seal is needed in any case, and goes there.
func (f *FTL) fill() api.Errno {
	at := f.sealed[seal]
	b, e := f.chip.Read(at.block, at.page)
	if e != api.OK {
		return e
	}
	return f.move(seal, at, b)
}

// empty erases a block, behind what is needed in it was copied away.
func (f *FTL) empty(k int) api.Errno {
	// Where the copying fails, the block that failed comes first, and then this one again: what is left in it goes to where the rest went.
	f.begun, f.block = true, k
	if e := f.copyAway(k); e != api.OK {
		return e
	}
	return f.erase(k)
}

// retire marks a block that failed, behind what is needed in it was copied away.
func (f *FTL) retire(k int) api.Errno {
	if e := f.copyAway(k); e != api.OK {
		return e
	}
	if e := f.blocks.Retire(k); e != api.OK {
		return otherwise(e)
	}
	f.clear(k)
	f.failed = slices.DeleteFunc(f.failed, func(n int) bool { return n == k })
	return api.OK
}

// erase erases a block in which nothing is needed. One that fails is bad then, and that is all.
func (f *FTL) erase(k int) api.Errno {
	e := f.blocks.Erase(k)
	if e != api.OK && e != api.ErrFail {
		return otherwise(e)
	}
	f.clear(k)
	return api.OK
}

// otherwise is the error for what a chip answers where nothing failed: it has no power, or somebody else was at it.
func otherwise(e api.Errno) api.Errno {
	if e == api.ErrDown {
		return e
	}
	return api.ErrTorn
}

// clear forgets what stood in a block.
func (f *FTL) clear(k int) {
	f.later[k] = false
	f.strays[k] = nil
	f.begun = f.begun && f.block != k
}

// copyAway copies what is needed in a block.
func (f *FTL) copyAway(k int) api.Errno {
pages:
	for i := range f.chip.Geo().Pages {
		if f.row()[k].Live == 0 {
			return api.OK
		}
		at := place{k, i}
		b, e := f.chip.Read(k, i)
		if e != api.OK {
			return e
		}
		t, _, e := tag.Read(b)
		if e != api.OK || !stands(f.sealed, t.Page, at) && !stands(f.written, t.Page, at) {
			continue pages
		}
		if e = f.move(t.Page, at, b); e != api.OK {
			return e
		}
	}
	return api.OK
}

// stands tells whether a page stands at a place.
func stands(in map[uint32]place, page uint32, at place) bool {
	got, ok := in[page]
	return ok && got == at
}

// move copies what is needed of a page, and reads the copy again.
func (f *FTL) move(page uint32, from place, b []byte) api.Errno {
	to, e := f.program(b)
	if e != api.OK {
		return e
	}
	copied, e := f.chip.Read(to.block, to.page)
	if e != api.OK {
		return e
	}
	if !bytes.Equal(copied, b) {
		return api.ErrTorn
	}
	if stands(f.written, page, from) {
		f.written[page] = to
	} else {
		f.sealed[page] = to
	}
	f.blocks.Drop(from.block)
	return api.OK
}

// program programs a page's bytes where there is room.
func (f *FTL) program(b []byte) (place, api.Errno) {
	for {
		k, i, e := f.blocks.Program(b)
		switch e {
		case api.OK:
			return place{k, i}, api.OK
		case api.ErrFail:
			f.failed = append(f.failed, k)
			return place{}, e
		case api.ErrFull:
			if e = f.eraseStale(); e != api.OK {
				return place{}, e
			}
		default:
			return place{}, otherwise(e)
		}
	}
}

// eraseStale erases the first stale block.
func (f *FTL) eraseStale() api.Errno {
	k := slices.IndexFunc(f.row(), func(b api.Block) bool { return b.State == api.SStale })
	if k < 0 {
		return api.ErrReserve
	}
	if e := f.erase(k); e != api.OK {
		return e
	}
	if f.ReadOnly() {
		return api.ErrReserve
	}
	return api.OK
}
