package split_test

import (
	"math"
	"slices"
	"testing"

	"levee/api"
	"levee/fast"
	"levee/hold"
	"levee/node"
	"levee/pmem"
	"levee/run"
	"levee/site"
	"levee/slab"
	"levee/split"
)

// refused holds a split that may not be: each step answers the same, it has made nothing, and nothing is changed by it.
func refused(t *testing.T, s *split.Split, x *site.Site, h *hold.Hold, code api.Errno) {
	t.Helper()
	m := x.Mem()
	was, stats, locks := m.Copy(), m.Stats(), x.Locks().Copy()
	room, used := x.Slab().Room(3), len(x.Slab().Used())
	at, n, e := h.At()
	for range 4 {
		made(t, s, 0, 0, false)
		if through, e := s.Step(); !through || e != code {
			t.Fatalf("Step: %v, %d, not %d", through, e, code)
		}
	}
	made(t, s, 0, 0, false)
	if !m.Same(was) || m.Stats() != stats || !x.Locks().Same(locks) || x.Slab().Room(3) != room || len(x.Slab().Used()) != used {
		t.Fatal("a split that is refused does something")
	}
	if a, o, f := h.At(); a != at || o != n || f != e {
		t.Fatal("a split that is refused changes the hold")
	}
}

// eight is an arena of a leaf that has all the entries that there may be, and its hold, of the client 5.
func eight(t *testing.T) (*land, *site.Site, *hold.Hold) {
	t.Helper()
	l, at := lone(t, 0, 2, 0, 2, 10, 20, 30, 40, 50, 60, 70, 80)
	x := l.site()
	return l, x, owner(t, x, 5, spot{at, 0})
}

// The chapter's Errors: no split, a zero one.
func TestNone(t *testing.T) {
	var none *split.Split
	for _, s := range []*split.Split{none, {}} {
		refused(t, s, nil, nil, api.ErrNil)
	}
}

// The chapter's Errors: no site, no memory, no hold, a zero one, whatever else is wrong.
func TestNoSite(t *testing.T) {
	_, x, h := eight(t)
	waits := hold.New(x, 6, 1088, 0)
	free := owner(t, x, 6, spot{1280, 180})
	free.Release()
	for _, y := range []*site.Site{nil, {}} {
		for _, g := range []*hold.Hold{h, waits, free, nil, {}, hold.New(nil, 0, 1088, 0)} {
			for _, client := range []int{5, 0, -1, 65, math.MinInt} {
				refused(t, split.New(y, client, g), y, g, api.ErrNil)
			}
		}
	}
	for _, g := range []*hold.Hold{nil, {}, hold.New(nil, 5, 1088, 0), hold.New(&site.Site{}, 5, 1088, 0)} {
		for _, client := range []int{5, 0, -1, 65, math.MinInt} {
			refused(t, split.New(x, client, g), x, g, api.ErrNil)
		}
	}
	*x.Mem() = pmem.Mem{}
	refused(t, split.New(x, 5, h), x, h, api.ErrNil)
	refused(t, split.New(x, 5, waits), x, waits, api.ErrNil)
}

// The chapter's Errors: a hold that is not done, however far it has come, or waits, or is over by an error, or is released; also where no block is free, and of any client.
func TestNoHold(t *testing.T) {
	l, at := lone(t, 0, 2, 0, 2, 10, 20, 30, 40, 50, 60, 70, 80)
	for _, full := range []bool{false, true} {
		for full && l.slab.Room(3) > 0 {
			l.block(3)
		}
		l.lasts()
		for _, client := range []int{5, 0, -1, api.System + 1} {
			for steps := range 40 {
				x := l.site()
				h := hold.New(x, 5, at, 0)
				through := false
				for range steps {
					through, _ = h.Step()
				}
				if through {
					h.Release()
				}
				refused(t, split.New(x, client, h), x, h, api.ErrState)
			}
			x := l.site()
			owner(t, x, 6, spot{at, 0})
			waits := hold.New(x, 5, at, 0)
			waits.Step()
			refused(t, split.New(x, client, waits), x, waits, api.ErrState)
			for _, h := range []*hold.Hold{hold.New(x, -1, at, 0), hold.New(x, 64, at, 0), hold.New(x, 7, 64, 0), hold.New(x, 7, 1<<30, 0), hold.New(x, 7, 0, 0)} {
				refused(t, split.New(x, client, h), x, h, api.ErrState)
				h.Step()
				h.Step()
				refused(t, split.New(x, client, h), x, h, api.ErrState)
			}
		}
	}
}

// The chapter's Errors: a split that is refused, since the hold was not done as yet, stays so; another one is none the worse for it.
func TestRefusedStays(t *testing.T) {
	l, at := lone(t, 0, 2, 0, 2, 10, 20, 30, 40, 50, 60, 70, 80)
	x := l.site()
	h := hold.New(x, 5, at, 0)
	s := split.New(x, 5, h)
	refused(t, s, x, h, api.ErrState)
	site.Whole(x.Mem(), h.Step, 400)
	refused(t, s, x, h, api.ErrState)
	whole(t, l, x, 5, h)
}

// The chapter's Errors: a node that has not so many entries, of each level; also where no block is free.
func TestNotFull(t *testing.T) {
	for _, full := range []bool{false, true} {
		for level := range 3 {
			for entries := range api.Fan {
				l := bare(t, 2)
				at := l.block(3)
				n := api.Node{Level: level, First: at}
				for p := range entries {
					n.Keys[p], n.Ptrs[p] = uint64(1+p), api.Addr(2112+64*p)
				}
				for p := entries + 1; p < api.Fan; p++ {
					n.Keys[p], n.Ptrs[p] = uint64(1+p), api.Addr(2112+64*p) // nobody looks there
				}
				l.lay(at, n)
				l.root(at)
				for full && l.slab.Room(3) > 0 {
					l.block(3)
				}
				l.lasts()
				x := l.site()
				h := owner(t, x, 5, spot{at, 0})
				refused(t, split.New(x, 5, h), x, h, api.ErrState)
				refused(t, split.New(x, -1, h), x, h, api.ErrState)
			}
		}
	}
}

// The chapter's Errors: a node of which an entry was taken out behind the hold's being done; one that has its eighth again is split.
func TestNotFullAnyMore(t *testing.T) {
	l, x, h := eight(t)
	change := func(puts []api.Put, e api.Errno) {
		t.Helper()
		if e != api.OK {
			t.Fatal(e)
		}
		site.Whole(x.Mem(), run.New(x.Mem(), 5, puts...).Step, 100)
		h.Apply(puts...)
	}
	at, n, _ := h.At()
	change(fast.Delete(at, n, 30))
	refused(t, split.New(x, 5, h), x, h, api.ErrState)
	_, n, _ = h.At()
	change(fast.Insert(at, n, 65, 1<<16))
	_, l.nodes[at], _ = h.At()
	whole(t, l, x, 5, h)
	refused(t, split.New(x, 5, h), x, h, api.ErrState)
}

// P17.1, the chapter's Errors: no block is free, though of other classes there are; nothing is stored, whoever asks, and once a block is free, it can be done.
func TestFull(t *testing.T) {
	for _, level := range []int{0, 1, 15} {
		l, at := lone(t, level, 2, 0, 2, 10, 20, 30, 40, 50, 60, 70, 80)
		l.block(2)
		for l.slab.Room(3) > 0 {
			l.block(3)
		}
		l.lasts()
		x := l.site()
		if x.Slab().Room(1) == 0 || x.Slab().Room(2) == 0 {
			t.Fatal("nothing is free")
		}
		h := owner(t, x, 5, spot{at, 0})
		for _, client := range []int{5, 0, api.System, -1, api.System + 1, math.MaxInt} {
			refused(t, split.New(x, client, h), x, h, api.ErrFull)
		}
		late := split.New(x, 5, h)
		used := x.Slab().Used()
		turn, e := x.Slab().Free(x.Mem(), 5, used[len(used)-1])
		if e != api.OK {
			t.Fatal(e)
		}
		refused(t, split.New(x, 5, h), x, h, api.ErrFull) // it is not free as yet
		site.Whole(x.Mem(), turn.Step, 20)
		whole(t, l, x, 5, h)
		refused(t, late, x, h, api.ErrState)
	}
}

// P17.1: the last block that is free, of a slab that has the class, or of one that has none as yet.
func TestLastBlock(t *testing.T) {
	for room := 1; room < 12; room++ {
		l, at := lone(t, 0, 1, 0, 2, 10, 20, 30, 40, 50, 60, 70, 80)
		for l.slab.Room(3) > room {
			l.block(3)
		}
		l.lasts()
		x := l.site()
		whole(t, l, x, 5, owner(t, x, 5, spot{at, 0}))
		if x.Slab().Room(3) != room-1 {
			t.Fatal(x.Slab().Room(3), "are free")
		}
	}
}

// The chapter's Errors: two splits of one room: the second one is refused while the first one goes on, and nothing of the first one is touched.
func TestTwoForOne(t *testing.T) {
	l, at := lone(t, 0, 2, 0, 2, 10, 20, 30, 40, 50, 60, 70, 80)
	for l.slab.Room(3) > 1 {
		l.block(3)
	}
	l.lasts()
	for steps := 1; steps < 48; steps++ {
		x := l.site()
		next := l.levels[0][1]
		first := split.New(x, 5, owner(t, x, 5, spot{at, 0}))
		h := owner(t, x, 6, next)
		for range steps {
			first.Step()
		}
		refused(t, split.New(x, 6, h), x, h, api.ErrFull)
		if _, e := ended(t, first, x.Mem()); e != api.OK {
			t.Fatal(e)
		}
		if len(sound(t, x.Mem().Image()).leaks()) != len(sound(t, l.mem.Image()).leaks()) {
			t.Fatal("a leak")
		}
	}
}

// The chapter's Errors, those of 10: a client that there is not, behind all else, and ahead of all stores; one that the memory has, and the site has not, is as good as another one.
func TestNoClient(t *testing.T) {
	for _, client := range []int{-1, api.System + 1, math.MinInt, math.MaxInt} {
		l, x, h := eight(t)
		refused(t, split.New(x, client, h), x, h, api.ErrClient)
		to := least(t, x)
		whole(t, l, x, 5, h)
		if x.Slab().Is(to) != 2 {
			t.Fatal("the block was not free again")
		}
	}
	l, at := lone(t, 0, 1, 0, 2, 10, 20, 30, 40, 50, 60, 70, 80)
	x := siteOf(t, l.mem.Copy(), 1)
	h := owner(t, x, 0, spot{at, 0})
	if _, e := ended(t, split.New(x, api.System, h), x.Mem()); e != api.OK {
		t.Fatal(e)
	}
}

// The chapter's Errors: a memory, a site, or a hold, that is there no more, behind each step: nothing is done any more, also when it is there again.
func TestGone(t *testing.T) {
	for steps := range 48 {
		for i := range 3 {
			_, x, h := eight(t)
			y, held := *x, *h
			s := split.New(&y, 5, h)
			for range steps {
				s.Step()
			}
			was := *x.Mem()
			switch i {
			case 0:
				*x.Mem() = pmem.Mem{}
			case 1:
				y = site.Site{}
			case 2:
				*h = hold.Hold{}
			}
			if through, e := s.Step(); !through || e != api.ErrNil {
				t.Fatal(i, steps, through, e)
			}
			*x.Mem(), y, *h = was, *x, held
			refused(t, s, x, h, api.ErrNil)
		}
	}
	for steps := range 34 {
		_, x, h := eight(t)
		s := split.New(x, 5, h)
		for range steps {
			s.Step()
		}
		*x.Slab() = slab.Slab{}
		for through, n := false, 0; !through; n++ {
			var e api.Errno
			if through, e = s.Step(); n > 400 || through && steps < 31 && e != api.ErrNil {
				t.Fatal(steps, through, e)
			}
		}
	}
}

// Words, the chapter's Errors: once the hold is released, nothing more is stored, and what was, is nothing that a walk makes anything of; the next one who has the node finds it whole, and may split it; also behind a crash.
func TestReleasedMeanwhile(t *testing.T) {
	for seed := range 6 {
		releasedMeanwhile(t, grown(t, 500+seed, seed%2 == 0))
	}
}

// releasedMeanwhile lets a hold of a node of each level be released behind each step of a split.
func releasedMeanwhile(t *testing.T, l *land) {
	t.Helper()
	keys := l.keys()
	were := entries(t, l.mem.View(), len(l.levels), keys)
	finds := func(image []byte) {
		t.Helper()
		if sound(t, image); !slices.Equal(entries(t, image, len(l.levels), keys), were) {
			t.Fatal("a key leads to somewhere else")
		}
	}
	for level := range l.levels {
		list := l.full(level)
		if len(list) == 0 {
			continue
		}
		for steps := range 49 {
			x := l.site()
			h := owner(t, x, 5, list[0])
			s, room := split.New(x, 5, h), x.Slab().Room(3)
			for range steps {
				s.Step()
			}
			h.Release()
			code := api.ErrState
			if steps == 48 {
				code = api.OK
			}
			stats := x.Mem().Stats()
			for range 3 {
				if through, e := s.Step(); !through || e != code {
					t.Fatal(steps, through, e)
				}
			}
			if x.Mem().Stats() != stats {
				t.Fatal("it goes on without the lock")
			}
			if steps < 30 && x.Slab().Room(3) != room {
				t.Fatal("the block is not free again, behind", steps)
			}
			kept(x.Mem(), finds)
			again := owner(t, x, 6, list[0])
			if _, n, _ := again.At(); node.Len(n) == api.Fan {
				if _, e := ended(t, split.New(x, 6, again), x.Mem()); e != api.OK {
					t.Fatal(e)
				}
			}
			finds(x.Mem().View())
			kept(x.Mem(), finds)
		}
	}
}
