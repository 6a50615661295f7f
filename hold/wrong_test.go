package hold_test

import (
	"math"
	"testing"

	"levee/api"
	"levee/hold"
	"levee/lock"
	"levee/pmem"
	"levee/site"
)

// refused holds a hold that may not be, whether a step of it was asked for or not, and that it does nothing, and has nothing.
func refused(t *testing.T, h *hold.Hold, x *site.Site, code, apply api.Errno) {
	t.Helper()
	m := x.Mem()
	was, stats, locks := m.Copy(), m.Stats(), x.Locks().Copy()
	for i := range 5 {
		tells(t, h, 0, api.Node{}, code, 0, false)
		if e := h.Apply(); e != apply {
			t.Fatalf("Apply: %d, not %d", e, apply)
		}
		if e := h.Apply(api.Put{At: 1}); e != apply {
			t.Fatalf("Apply: %d, not %d", e, apply)
		}
		if i > 2 && h.Release() {
			t.Fatal("it had a lock")
		}
		if through, e := h.Step(); !through || e != code {
			t.Fatalf("Step: %v, %d, not %d", through, e, code)
		}
	}
	if !m.Same(was) || m.Stats() != stats || !x.Locks().Same(locks) {
		t.Fatal("a hold that is refused does something")
	}
}

// The chapter's Errors: no hold, a zero one.
func TestNone(t *testing.T) {
	var none *hold.Hold
	for _, h := range []*hold.Hold{none, {}} {
		if h.Release() {
			t.Error("Release")
		}
		refused(t, h, nil, api.ErrNil, api.ErrNil)
	}
}

// The chapter's Errors: no site, whatever else is wrong.
func TestNoSite(t *testing.T) {
	for _, s := range []*site.Site{nil, {}} {
		for _, client := range []int{0, 1, -1, 64, math.MinInt} {
			for _, at := range []api.Addr{1088, 0, 1, math.MaxUint64} {
				for range 2 {
					h := hold.New(s, client, at, 5)
					if h == nil {
						t.Fatal("New: none")
					}
					if at == 1 && h.Release() {
						t.Fatal("Release")
					}
					refused(t, h, s, api.ErrNil, api.ErrNil)
				}
			}
		}
	}
}

// The chapter's Errors: clients that the site has not, also such as the memory, or another site, has; ahead of whatever the address is.
func TestNoClient(t *testing.T) {
	l, a, _ := pair(t)
	for _, clients := range []int{1, 2, 63, api.MaxClients} {
		for _, client := range []int{-1, clients, clients + 1, api.System, api.System + 1, math.MinInt, math.MaxInt} {
			for _, at := range []api.Addr{a, 0, 1, 64, 1 << 50} {
				x, e := site.New(l.mem.Copy(), l.slab, clients)
				if e != api.OK {
					t.Fatal(e)
				}
				refused(t, hold.New(x, client, at, 5), x, api.ErrClient, api.ErrState)
				h := hold.New(x, client, at, 5)
				if h.Release() {
					t.Fatal("Release")
				}
				refused(t, h, x, api.ErrClient, api.ErrState)
			}
		}
		x, _ := site.New(l.mem.Copy(), l.slab, clients)
		h := hold.New(x, clients-1, a, 5)
		ended(t, h, x.Mem(), 400)
		l.owned(h, x, clients-1, a)
	}
}

// P16.1: nothing is at the address 0, and nobody can have its lock.
func TestNowhere(t *testing.T) {
	l, a, _ := pair(t)
	x := l.site()
	refused(t, hold.New(x, 0, 0, 5), x, api.ErrRange, api.ErrState)
	l.store(0, api.NodeMagic) // as if a node were there
	x = l.site()
	refused(t, hold.New(x, 0, 0, 5), x, api.ErrRange, api.ErrState)
	h := hold.New(x, 0, a, 5)
	ended(t, h, x.Mem(), 400)
	l.owned(h, x, 0, a)
}

// ends holds a hold that comes to an error by itself: it has no lock then, and waits for none, and has changed nothing.
func ends(t *testing.T, x *site.Site, at api.Addr, key uint64, code api.Errno) {
	t.Helper()
	stores := x.Mem().Stats().Stores
	h := hold.New(x, 6, at, key)
	if _, e := ended(t, h, x.Mem(), 600); e != code {
		t.Fatalf("at %d, key %d: %d, not %d", at, key, e, code)
	}
	locks(t, x, 6, 0)
	refused(t, h, x, code, api.ErrState)
	if x.Mem().Stats().Stores != stores {
		t.Fatal("something was stored")
	}
}

// The chapter's Errors, those of 2 and 11: where no node is.
func TestLeads(t *testing.T) {
	for at, code := range map[api.Addr]api.Errno{
		64: api.ErrBytes, 1024: api.ErrBytes, 2112: api.ErrBytes,
		1: api.ErrRange, 1089: api.ErrRange, 3072: api.ErrRange, 3072 - 24: api.ErrRange, 1 << 20: api.ErrRange, 1 << 40: api.ErrRange,
		1 << 63: api.ErrRange, math.MaxUint64: api.ErrRange, math.MaxUint64 - 63: api.ErrRange,
	} {
		l, a, _ := pair(t)
		ends(t, l.site(), at, 5, code)
		l.store(a+16, uint64(at))
		if code == api.ErrRange {
			ends(t, l.site(), a, 5, code) // Low of Next is read, too
			continue
		}
		low, _ := l.mem.Load(at + 8)
		x := l.site()
		ends(t, x, a, math.MaxUint64, code)
		if low < math.MaxUint64 && x.Mem().Pending(a) != 0 {
			t.Error("it went by a Next that has not lasted")
		}
	}
}

// Words: nodes that no change leaves are not repaired, and not cut: the change's error (9) is told.
func TestNoChange(t *testing.T) {
	for _, n := range []api.Node{
		{Keys: [8]uint64{1, 2, 3}, Ptrs: [8]api.Addr{64, 64, 64}},
		{Keys: [8]uint64{1, 2, 3}, Ptrs: [8]api.Addr{64, 64, 128}, Level: 1},
		{Keys: [8]uint64{3, 2, 3}, Ptrs: [8]api.Addr{64, 128, 128}, First: 192},
		{Keys: [8]uint64{7, 2, 3}, Ptrs: [8]api.Addr{64, 128, 256}, First: 192, Next: 1280},
	} {
		l := bare(t, 2)
		at, next := l.block(3), l.block(3)
		l.lay(next, api.Node{Low: 4, First: next})
		l.lay(at, n)
		l.root(at)
		ends(t, l.site(), at, 1, api.ErrArg)
	}
	l := bare(t, 2)
	l.block(3)
	l.lay(1096, api.Node{First: 64, Keys: [8]uint64{1, 2}, Ptrs: [8]api.Addr{128, 128}})
	ends(t, l.site(), 1096, 1, api.ErrArg) // a base that may not be
}

// P16.1: in an arena that is not sound a hold may go round for ever; each of its steps does one primitive at most, and it has one lock at most.
func TestRound(t *testing.T) {
	l, a, b := pair(t)
	l.store(b+16, uint64(a))
	l.store(a+8, 20)
	x := l.site()
	h := hold.New(x, 0, a, 90)
	for range 5000 {
		stats := x.Mem().Stats()
		if through, e := h.Step(); through || e != api.OK {
			t.Fatal(through, e)
		}
		if d := done(x.Mem(), stats); d.Loads+d.Flushes+d.Fences > 1 || d.Stores > 0 || len(x.Locks().Held(0)) > 1 {
			t.Fatal(d, x.Locks().Held(0))
		}
	}
}

// The chapter's Errors: a memory that is there no more, behind each step: it has no lock then; of one that is done what it has stays.
func TestGone(t *testing.T) {
	l, at := torn(t, 8, 3, 2)
	all, _ := ended(t, hold.New(l.site(), 0, at, 5), nil, 400)
	for steps := range all {
		for _, free := range []bool{false, true} {
			x := l.site()
			was := x.Mem().Copy()
			h := hold.New(x, 0, at, 5)
			for range steps {
				h.Step()
			}
			_, held := x.Locks().Holder(at)
			*x.Mem() = pmem.Mem{}
			tells(t, h, 0, api.Node{}, api.ErrNil, 0, false)
			if free && h.Release() != held {
				t.Fatal("Release", steps)
			}
			if through, e := h.Step(); !through || e != api.ErrNil {
				t.Fatal(through, e)
			}
			locks(t, x, 0, 0)
			*x.Mem() = *was
			refused(t, h, x, api.ErrNil, api.ErrNil)
		}
	}
	x := l.site()
	h := hold.New(x, 0, at, 5)
	ended(t, h, x.Mem(), 400)
	_, n, _ := h.At()
	high, bound := h.High()
	*x.Mem() = pmem.Mem{}
	tells(t, h, at, n, api.OK, high, bound)
	if through, e := h.Step(); !through || e != api.OK {
		t.Fatal(through, e)
	}
	if !h.Release() {
		t.Fatal("Release")
	}
	locks(t, x, 0, 0)
	tells(t, h, 0, api.Node{}, api.ErrState, 0, false)
}

// The chapter's Errors: a memory, locks, or a site, that are there no more while it waits end a hold, which waits no more.
func TestGoneWhileItWaits(t *testing.T) {
	l, a, _ := pair(t)
	for i, code := range []api.Errno{api.ErrNil, api.ErrClient, api.ErrNil} {
		x := l.site()
		x.Locks().Try(9, a)
		y, locks := *x, x.Locks()
		h := hold.New(&y, 0, a, 5)
		h.Step()
		h.Step()
		switch i {
		case 0:
			*x.Mem() = pmem.Mem{}
		case 1:
			*locks = lock.Table{}
		case 2:
			y = site.Site{}
		}
		tells(t, h, 0, api.Node{}, code, 0, false)
		if through, e := h.Step(); !through || e != code {
			t.Fatal(i, through, e)
		}
		if id, waits := locks.Wants(0); waits && i < 2 {
			t.Fatal(i, "waits for", id)
		}
		if h.Release() {
			t.Fatal("Release")
		}
	}
}
