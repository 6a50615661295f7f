package put_test

import (
	"math"
	"strings"
	"testing"

	"levee/api"
	"levee/node"
	"levee/pmem"
	"levee/put"
	"levee/site"
	"levee/slab"
	"levee/super"
)

// refused holds a put that may not be: each step answers the same, and nothing is changed by it.
func refused(t *testing.T, p *put.Put, x *site.Site, e, code api.Errno) {
	t.Helper()
	m := x.Mem()
	was, stats, locks, blocks := m.Copy(), m.Stats(), x.Locks().Copy(), rooms(x)
	for range 4 {
		if through, f := p.Step(); !through || f != e {
			t.Fatalf("Step: %v, %d, not %d", through, f, e)
		}
		tells(t, p, code)
	}
	if !m.Same(was) || m.Stats() != stats || !x.Locks().Same(locks) || rooms(x) != blocks {
		t.Fatal("a put that is refused does something")
	}
}

// The chapter's Errors, P19.1: no put, a zero one.
func TestNone(t *testing.T) {
	var none *put.Put
	for _, p := range []*put.Put{none, {}} {
		tells(t, p, api.ErrNil)
		refused(t, p, nil, api.ErrNil, api.ErrNil)
	}
}

// The chapter's Errors: no site, a zero one, no memory, whatever else is wrong.
func TestNoSite(t *testing.T) {
	gone := empty(t, 2).site()
	*gone.Mem() = pmem.Mem{}
	for _, x := range []*site.Site{nil, {}, gone} {
		for _, client := range []int{0, 5, -1, 64, math.MinInt} {
			for _, length := range []int{0, 1, 120, 121, 9999} {
				p := put.New(x, client, 7, strings.Repeat("v", length))
				tells(t, p, api.ErrState)
				refused(t, p, x, api.ErrNil, api.ErrNil)
			}
		}
	}
}

// The chapter's Errors, P0.6: a client that the site has not, ahead of all else that is done, also one that the memory has, and where the value may not be, or no block is free.
func TestNoClient(t *testing.T) {
	full := empty(t, 2)
	full.fills(1, 0)
	full.fills(2, 0)
	for _, l := range []*land{empty(t, 2), row(t, 5, []uint64{0, 1, 2, 3, 4, 5, 6, 7, 8}), full} {
		for _, clients := range []int{1, 7, 64} {
			x := siteOf(t, l.mem.Copy(), clients)
			for _, client := range []int{clients, clients + 1, api.System, -1, api.System + 1, math.MaxInt, math.MinInt} {
				for _, length := range []int{0, 1, 120, 121, 9999} {
					refused(t, put.New(x, client, 7, strings.Repeat("v", length)), x, api.ErrClient, api.ErrClient)
				}
			}
			p := put.New(x, clients-1, 7, "v")
			if _, e := ended(t, p, x); e != api.OK || (p.Response().Code != api.OK) != (l == full) {
				t.Fatal(e, p.Response())
			}
		}
	}
}

// Words, P0.6: a value that may not be is answered ErrLong, which is no error of Step; nothing is done, also where no block is free.
func TestLong(t *testing.T) {
	full := row(t, 3, []uint64{0, 3, 7})
	full.fills(2, 0)
	full.fills(1, 0)
	full.fills(3, 0)
	for _, l := range []*land{empty(t, 2), row(t, 3, []uint64{0, 3, 7}), full} {
		for _, length := range []int{121, 122, 128, 256, 1 << 16} {
			for _, key := range []uint64{0, 7, math.MaxUint64} {
				x := l.site()
				refused(t, put.New(x, 63, key, strings.Repeat("v", length)), x, api.OK, api.ErrLong)
			}
		}
	}
}

// Words, P0.6: where no block is free for the value it is answered ErrFull, which is no error of Step, at once; and where none is for a node.
func TestFullAtOnce(t *testing.T) {
	for _, v := range []string{"", strings.Repeat("v", 56), strings.Repeat("v", 57), strings.Repeat("v", 120)} {
		l := row(t, 3, []uint64{0, 3, 7})
		l.fills(2, 0)
		l.fills(1, 0)
		x := l.site()
		for _, key := range []uint64{3, 4} {
			refused(t, put.New(x, 0, key, v), x, api.OK, api.ErrFull)
		}
	}
	l := row(t, 2, []uint64{0, 1, 2, 3, 4, 5, 6, 7, 8})
	l.fills(3, 0)
	x := l.site()
	p := put.New(x, 0, 9, "v")
	if _, e := ended(t, p, x); e != api.OK {
		t.Fatal(e)
	}
	refused(t, p, x, api.OK, api.ErrFull)
}

// The chapter's Errors: a memory that is there no more, behind each step: it is over, without a lock, and nothing is done any more, also when it is there again; and so where the site is there no more.
func TestGone(t *testing.T) {
	most := 0
	for i, a := range some(t)[:12] {
		steps := 0
		for through := false; !through; steps++ {
			x := a.l.site()
			p := a.of(x, 5)
			for range steps {
				through, _ = p.Step()
			}
			if through {
				break
			}
			m := *x.Mem()
			*x.Mem() = pmem.Mem{}
			if done, e := p.Step(); !done || e != api.ErrNil {
				t.Fatal(i, steps, done, e)
			}
			if locks := x.Locks().Held(5); len(locks) > 0 {
				t.Fatal(i, "it has locks:", locks)
			}
			*x.Mem() = m
			refused(t, p, x, api.ErrNil, api.ErrNil)

			x = a.l.site()
			y := *x
			p = a.of(&y, 5)
			for range steps {
				p.Step()
			}
			y = site.Site{}
			if done, e := p.Step(); !done || e != api.ErrNil {
				t.Fatal(i, steps, done, e)
			}
			y = *x
			refused(t, p, x, api.ErrNil, api.ErrNil)
		}
		most = max(most, steps)
	}
	if most < 400 {
		t.Fatal("too few that tell something:", most)
	}
}

// The chapter's Errors: the block of a put that is over by an error is free again, as long as it is not published, and no other one is.
func TestReservedIsFreeAgain(t *testing.T) {
	for steps := range 12 {
		x := empty(t, 3).site()
		to, _ := x.Slab().Reserve(1)
		x.Slab().Release(to)
		other, _ := x.Slab().Reserve(3)
		p := put.New(x, 0, 7, strings.Repeat("v", 20))
		for range steps {
			p.Step()
		}
		was := x.Slab().Is(to)
		*x.Mem() = pmem.Mem{}
		if _, e := p.Step(); e != api.ErrNil {
			t.Fatal(e)
		}
		if is := x.Slab().Is(to); is != was && (was != 1 || is != 0) || is == 1 {
			t.Fatal(steps, "steps: the block was", was, "and is", is)
		}
		if x.Slab().Is(other) != 1 {
			t.Fatal("another one's block is free")
		}
	}
}

// The chapter's Errors: one that waits, and whose memory goes, waits no more.
func TestGoneWhileItWaits(t *testing.T) {
	l := row(t, 5, []uint64{0, 1, 2, 3, 4, 5, 6, 7, 8}, []uint64{10, 11})
	for key, at := range map[uint64]api.Addr{5: l.levels[0][0].at, 9: super.RootAt(), 12: super.RootAt()} {
		x := l.site()
		x.Locks().Try(6, at)
		p := put.New(x, 5, key, "v")
		waits(t, p, x, 5, at)
		*x.Mem() = pmem.Mem{}
		if done, e := p.Step(); !done || e != api.ErrNil {
			t.Fatal(done, e)
		}
		if id, is := x.Locks().Wants(5); is {
			t.Fatal("it waits for", id)
		}
		if c, is := x.Locks().Holder(at); !is || c != 6 {
			t.Fatal("the other one's lock is gone")
		}
	}
}

// The chapter's Errors, those of 2, and a node that is none: it is over where they are met, without a lock.
func TestNoNodeThere(t *testing.T) {
	for root, code := range map[uint64]api.Errno{0: api.ErrBytes, 64: api.ErrBytes, 1: api.ErrRange, 1 << 40: api.ErrRange, math.MaxUint64 - 7: api.ErrRange} {
		l := row(t, 3, []uint64{0, 3, 5})
		l.store(super.RootAt(), root)
		l.lasts()
		for _, key := range []uint64{3, 4} {
			x := l.site()
			p := put.New(x, 5, key, "v")
			if _, e := ended(t, p, x); e != code || len(x.Locks().Held(5)) > 0 {
				t.Fatal(root, e)
			}
			refused(t, p, x, code, code)
		}
	}
}

// The chapter's Errors, those of 6: the elder value's block is none that is published, as in an arena that has faults: that is told.
func TestNoElderBlock(t *testing.T) {
	for _, ptr := range []api.Addr{1 << 30, 8, 2112 + 64*14} {
		l := row(t, 3, []uint64{0, 3, 5})
		at := l.levels[0][0].at
		l.store(at+72, uint64(ptr))
		l.lasts()
		x := l.site()
		p := put.New(x, 5, 3, "v")
		if _, e := ended(t, p, x); e != api.ErrState || len(x.Locks().Held(5)) > 0 {
			t.Fatal(e)
		}
		refused(t, p, x, api.ErrState, api.ErrState)
	}
}

// The chapter's Errors, those of 6: a block that is another one's when it is to be published; no blocks at all, behind any step.
func TestBlocks(t *testing.T) {
	x := empty(t, 3).site()
	to, _ := x.Slab().Reserve(1)
	x.Slab().Release(to)
	p := put.New(x, 0, 7, "v")
	for x.Slab().Is(to) != 1 {
		p.Step()
	}
	x.Slab().Release(to)
	if _, e := ended(t, p, x); e != api.ErrState {
		t.Fatal(e)
	}
	refused(t, p, x, api.ErrState, api.ErrState)
	for _, a := range some(t)[:10] {
		for steps := 0; steps < 400; steps += 3 {
			x := a.l.site()
			p, through := a.of(x, 5), false
			for range steps {
				through, _ = p.Step()
			}
			if through {
				break
			}
			*x.Slab() = slab.Slab{}
			if _, e := ended(t, p, x); e != api.OK && e != api.ErrNil || len(x.Locks().Held(5)) > 0 {
				t.Fatal(steps, e)
			}
		}
	}
}

// The chapter's Errors, those of 9: a leaf that may not be, or that has the block already: nothing of it is stored to, and the lock is released.
func TestNoChange(t *testing.T) {
	l := row(t, 3, []uint64{0, 3, 5, 7})
	at := l.levels[0][0].at
	for _, c := range []struct {
		k   int
		w   uint64
		key uint64
	}{{1, 100, 4}, {10, 3, 4}, {9, uint64(l.nodes[at].Ptrs[2]), 4}, {9, uint64(l.nodes[at].Ptrs[2]), 5}} {
		x := l.site()
		x.Mem().Store(at+api.Addr(8*c.k), c.w)
		was := seen(t, x.Mem().View(), at)
		p := put.New(x, 5, c.key, "v")
		_, e := ended(t, p, x)
		if node.May(was, 0, false) || e != api.ErrArg || seen(t, x.Mem().View(), at) != was || len(x.Locks().Held(5)) > 0 {
			t.Fatal(c, e)
		}
		refused(t, p, x, api.ErrArg, api.ErrArg)
	}
}
