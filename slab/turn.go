package slab

import (
	"levee/api"
	"levee/bits"
	"levee/geo"
	"levee/pmem"
)

// Turn lasts what is said of one block. It does one primitive a step, so that turns of one slab may be mixed: the bits are told, and stored, within the same step.
type Turn struct {
	of     *Slab
	mem    *pmem.Mem
	client int
	header *header
	block  int
	place  func() api.Errno // what the next step does
	done   bool
	code   api.Errno
}

// Step does a step, and says whether the turn is done.
func (t *Turn) Step() (bool, api.Errno) {
	switch {
	case t == nil || t.place == nil:
		return true, api.ErrNil
	case t.done:
		return true, t.code
	}
	t.code = t.place()
	t.done = t.done || t.code != api.OK
	return t.done, t.code
}

// storeClass is ahead of the bits: both are of one line, so that no bit lasts ahead of its class.
func (t *Turn) storeClass() api.Errno {
	t.place = t.storeBits
	return t.mem.Store(geo.Header(t.header.slab), uint64(t.header.class))
}

func (t *Turn) storeBits() api.Errno {
	t.place = t.flush
	b := t.bits()
	e := t.mem.Store(geo.Bits(t.header.slab), b)
	if e == api.OK {
		t.header.bits = b
	}
	return e
}

func (t *Turn) flush() api.Errno {
	t.place = t.fence
	return t.mem.Flush(t.client, geo.Header(t.header.slab))
}

func (t *Turn) fence() api.Errno {
	e := t.mem.Fence(t.client)
	if e == api.OK {
		t.settle()
		t.done = true
	}
	return e
}

// bits are those that were stored last, by whatever turn, with the block's own as it is to be.
func (t *Turn) bits() uint64 {
	if t.header.blocks[t.block] == coming {
		return bits.Set(t.header.bits, t.block)
	}
	return bits.Clear(t.header.bits, t.block)
}

// settle lets the block be what has lasted of it.
func (t *Turn) settle() {
	if t.header.blocks[t.block] == coming {
		t.header.blocks[t.block] = published
		return
	}
	t.of.leave(t.header, t.block)
}
