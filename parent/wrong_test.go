package parent_test

import (
	"math"
	"testing"

	"levee/api"
	"levee/parent"
	"levee/pmem"
	"levee/site"
	"levee/slab"
	"levee/super"
)

// refused holds a parent that may not be: each step answers the same, nothing was left, and nothing is changed by it.
func refused(t *testing.T, p *parent.Parent, x *site.Site, code api.Errno) {
	t.Helper()
	m := x.Mem()
	was, stats, locks := m.Copy(), m.Stats(), x.Locks().Copy()
	room, used := x.Slab().Room(3), len(x.Slab().Used())
	for range 4 {
		if p.Left() {
			t.Fatal("something is left")
		}
		if through, e := p.Step(); !through || e != code {
			t.Fatalf("Step: %v, %d, not %d", through, e, code)
		}
	}
	if p.Left() {
		t.Fatal("something is left")
	}
	if !m.Same(was) || m.Stats() != stats || !x.Locks().Same(locks) || x.Slab().Room(3) != room || len(x.Slab().Used()) != used {
		t.Fatal("a parent that is refused does something")
	}
}

// The chapter's Errors: no parent, a zero one.
func TestNone(t *testing.T) {
	var none *parent.Parent
	for _, p := range []*parent.Parent{none, {}} {
		refused(t, p, nil, api.ErrNil)
	}
}

// The chapter's Errors: no site, a zero one, no memory, whatever else is wrong.
func TestNoSite(t *testing.T) {
	l := owed(t, 2)
	gone := l.site()
	*gone.Mem() = pmem.Mem{}
	for _, x := range []*site.Site{nil, {}, gone} {
		for _, level := range []int{1, 15, 0, 16, -1, math.MaxInt} {
			for _, client := range []int{0, 5, -1, 64, math.MinInt} {
				for _, child := range []api.Addr{0, 1280} {
					refused(t, parent.New(x, client, level, 7, child), x, api.ErrNil)
				}
			}
		}
	}
}

// The chapter's Errors: a level that is not from 1 to MaxLevel, no child; also of a client that there is not, and where no block is free.
func TestNoLevel(t *testing.T) {
	for _, room := range []int{3, 0} {
		l := owed(t, 2)
		l.fills(room)
		x, d := l.site(), l.debts()[0]
		for _, client := range []int{5, 0, 63, 64, -1, math.MaxInt, math.MinInt} {
			for _, level := range []int{0, -1, 16, 17, math.MaxInt, math.MinInt} {
				for _, child := range []api.Addr{d.child, 0} {
					refused(t, parent.New(x, client, level, d.low, child), x, api.ErrArg)
				}
			}
			for _, level := range []int{1, 2, 15} {
				for _, low := range []uint64{0, d.low, math.MaxUint64} {
					refused(t, parent.New(x, client, level, low, 0), x, api.ErrArg)
				}
			}
		}
	}
}

// The chapter's Errors: a client that the site has not, ahead of all else that is done, whether there is such a level or not; also one that the memory has.
func TestNoClient(t *testing.T) {
	for _, l := range []*land{owed(t, 2), columns(t, 2, 3), columns(t, 1, 8)} {
		for _, clients := range []int{1, 7, 64} {
			x := siteOf(t, l.mem.Copy(), clients)
			for _, client := range []int{clients, clients + 1, api.System, -1, api.System + 1, math.MaxInt, math.MinInt} {
				if client < clients && client >= 0 {
					continue
				}
				d := l.debts()[0]
				refused(t, d.of(x, client), x, api.ErrClient)
				refused(t, parent.New(x, client, 1, 0, 1088), x, api.ErrClient)
			}
			if _, e := ended(t, l.debts()[0].of(x, clients-1), x); e != api.OK {
				t.Fatal(e)
			}
		}
	}
}

// Words, the chapter's Errors: a Low of 0 is the leftmost node's own; where there is no such level there may be no entry of it, nor one that leads to the root: that is refused, ahead of all stores, and the block is free again.
func TestNoEntry(t *testing.T) {
	for level := 1; level <= api.MaxLevel; level++ {
		l := owed(t, 2)
		x := l.site()
		root, next := l.levels[0][0].at, l.levels[0][1]
		for _, d := range []debt{{level, 0, next.at}, {level, 0, root}, {level, next.low, root}} {
			stats, room := x.Mem().Stats(), x.Slab().Room(3)
			p := d.of(x, 5)
			_, e := ended(t, p, x)
			if s := done(x.Mem(), stats); e != api.ErrArg || s.Stores > 0 || x.Slab().Room(3) != room || len(x.Locks().Held(5)) > 0 {
				t.Fatal(d, e, s)
			}
			refused(t, p, x, api.ErrArg)
		}
		whole(t, x, 5, l.debts()[0], l.keys())
		whole(t, x, 5, debt{1, 0, root}, l.keys())
		if now := sound(t, x.Mem().View()); len(now.levels) != 2 || len(now.links()) != 2 {
			t.Fatal(now.levels)
		}
	}
}

// The chapter's Errors: an entry that its node may not have, since it leads to where another one does: it is refused, nothing is stored, and the lock is released.
func TestNoInsert(t *testing.T) {
	l := columns(t, 2, 3)
	x := l.site()
	for _, s := range l.levels[1][:4] {
		for _, low := range []uint64{1, 150, 250, 350, 400, math.MaxUint64} {
			stats := x.Mem().Stats()
			p := parent.New(x, 5, 2, low, s.at)
			_, e := ended(t, p, x)
			if d := done(x.Mem(), stats); e != api.ErrArg || d.Stores > 0 || len(x.Locks().Held(5)) > 0 {
				t.Fatal(s, low, e, d)
			}
			refused(t, p, x, api.ErrArg)
		}
	}
	whole(t, x, 5, l.debts()[0], l.keys())
}

// The chapter's Errors, those of 2 and 11: a root that is none, wherever it is; no lock is left.
func TestNoRoot(t *testing.T) {
	l := owed(t, 2)
	for root, code := range map[uint64]api.Errno{1: api.ErrRange, 64: api.ErrBytes, 0: api.ErrBytes, 1 << 40: api.ErrRange, math.MaxUint64 - 7: api.ErrRange} {
		x := l.site()
		x.Mem().Store(super.RootAt(), root)
		p := l.debts()[0].of(x, 5)
		if _, e := ended(t, p, x); e != code || len(x.Locks().Held(5)) > 0 {
			t.Fatal(root, e)
		}
		refused(t, p, x, code)

		// The root is another one when it is looked at anew.
		x = l.site()
		p = l.debts()[0].of(x, 5)
		for n := 0; len(x.Locks().Held(5)) == 0; n++ {
			if through, e := p.Step(); through || n > 300 {
				t.Fatal(through, e)
			}
		}
		x.Mem().Store(super.RootAt(), root)
		if _, e := ended(t, p, x); e != code || len(x.Locks().Held(5)) > 0 {
			t.Fatal(root, e, x.Locks().Held(5))
		}
		refused(t, p, x, code)
	}
}

// The chapter's Errors: a memory, or a site, that is there no more, behind each step: it is over, without a lock, and nothing is done any more, also when it is there again; a block that was to be a root is free again.
func TestGone(t *testing.T) {
	for splits, l := range map[bool]*land{false: owed(t, 2), true: cascade(t, 2, 0)} {
		most := 0
		for through := false; !through; most++ {
			x := l.site()
			p := l.debts()[0].of(x, 5)
			for range most {
				through, _ = p.Step()
			}
			if through {
				break
			}
			was := *x.Mem()
			*x.Mem() = pmem.Mem{}
			if done, e := p.Step(); !done || e != api.ErrNil {
				t.Fatal(most, done, e)
			}
			if locks := x.Locks().Held(5); len(locks) > 0 {
				t.Fatal("it has locks:", locks)
			}
			*x.Mem() = was
			refused(t, p, x, api.ErrNil)
			for _, a := range super.Places(x.Slab().Slabs()) {
				if x.Slab().Is(a) == 1 && !splits {
					t.Fatal("reserved, behind", most, "steps:", a)
				}
			}

			x = l.site()
			y := *x
			p = l.debts()[0].of(&y, 5)
			for range most {
				p.Step()
			}
			y = site.Site{}
			if done, e := p.Step(); !done || e != api.ErrNil {
				t.Fatal(most, done, e)
			}
			y = *x
			refused(t, p, x, api.ErrNil)
		}
		if most < 100 {
			t.Fatal("too few that tell something:", most)
		}
	}
}

// The chapter's Errors: one that waits, and whose memory goes, waits no more.
func TestGoneWhileItWaits(t *testing.T) {
	for _, at := range []api.Addr{super.RootAt(), 0} {
		l := owed(t, 2)
		if at == 0 {
			l = columns(t, 1, 3)
			at = l.levels[1][0].at
		}
		x := l.site()
		x.Locks().Try(6, at)
		p := l.debts()[0].of(x, 5)
		waits(t, p, x, 5, at)
		*x.Mem() = pmem.Mem{}
		if done, e := p.Step(); !done || e != api.ErrNil {
			t.Fatal(done, e)
		}
		if id, is := x.Locks().Wants(5); is {
			t.Fatal("it waits for", id)
		}
		if c, is := x.Locks().Holder(at); !is || c != 6 {
			t.Fatal("the other one's lock is gone")
		}
	}
}

// The chapter's Errors, those of 6: no blocks behind any step: it is over, at the latest where one is asked for.
func TestNoBlocks(t *testing.T) {
	for _, l := range []*land{owed(t, 2), cascade(t, 1, 0)} {
		for steps := range 120 {
			x := l.site()
			p := l.debts()[0].of(x, 5)
			through := false
			for range steps {
				through, _ = p.Step()
			}
			if through {
				continue
			}
			*x.Slab() = slab.Slab{}
			if _, e := ended(t, p, x); e != api.OK && e != api.ErrNil || len(x.Locks().Held(5)) > 0 {
				t.Fatal(steps, e)
			}
		}
	}
}

// P18.1, the chapter's Errors: a block that is being written is another one's when it is to be published: it ends by the error of 6.
func TestBlockTaken(t *testing.T) {
	l := owed(t, 2)
	x := l.site()
	to := least(t, x)
	p := l.debts()[0].of(x, 5)
	for n := 0; x.Slab().Is(to) != 1; n++ {
		if through, e := p.Step(); through || n > 300 {
			t.Fatal(through, e)
		}
	}
	x.Slab().Release(to)
	if _, e := ended(t, p, x); e != api.ErrState || len(x.Locks().Held(5)) > 0 {
		t.Fatal(e)
	}
	refused(t, p, x, api.ErrState)
	if wordAt(t, x.Mem().View(), super.RootAt()) != uint64(l.levels[0][0].at) {
		t.Fatal("another root")
	}
}
