package hold_test

import (
	"iter"
	"math"
	"slices"
	"testing"

	"levee/api"
	"levee/fast"
	"levee/hold"
	"levee/site"
	"levee/snap"
)

// deed is something that is done to a site.
type deed func(x *site.Site)

// looked is what a hold tells behind a step.
type looked struct {
	done bool
	code api.Errno
	at   api.Addr
	node api.Node
	high uint64
	has  bool
}

// entries are all of a node's, and of each whether it is valid.
func entries(n api.Node) ([]api.Entry, []bool) {
	var l []api.Entry
	var valid []bool
	ahead := n.First
	for p, ptr := range n.Ptrs {
		if ptr == 0 {
			break
		}
		l, valid = append(l, api.Entry{Key: n.Keys[p], Ptr: ptr}), append(valid, ptr != ahead)
		ahead = ptr
	}
	return l, valid
}

// plainly goes over a hold's steps by the chapter's words, primitive by primitive.
func plainly(x *site.Site, client int, at api.Addr, key uint64) iter.Seq[looked] {
	return func(yield func(looked) bool) {
		m := x.Mem()
		over := func(e api.Errno) {
			x.Locks().Release(client, at)
			yield(looked{done: true, code: e})
		}
		goOn := func() bool { return yield(looked{}) }
		for {
			for !x.Locks().Try(client, at) {
				if !goOn() {
					return
				}
			}
			if !goOn() {
				return
			}
			for whole := false; !whole; {
				s := snap.New(m, at)
				done, e := s.Step()
				for ; !done; done, e = s.Step() {
					if !goOn() {
						return
					}
				}
				if e != api.OK {
					over(e)
					return
				}
				n, _ := s.Node()
				high, has := s.High()
				if has && !(key < high) {
					x.Locks().Release(client, at)
					if !goOn() {
						return
					}
					if e := m.Flush(client, at); e != api.OK {
						over(e)
						return
					}
					if !goOn() {
						return
					}
					m.Fence(client)
					if !goOn() {
						return
					}
					at = n.Next
					break
				}
				l, valid := entries(n)
				stale := func(e api.Entry) bool { return has && e.Key >= high }
				var puts []api.Put
				switch {
				case slices.Contains(valid, false):
					puts, e = fast.Repair(at, n)
				case slices.ContainsFunc(l, stale):
					puts, e = fast.Cut(at, n, high)
				default:
					yield(looked{true, api.OK, at, n, high, has})
					return
				}
				if e != api.OK {
					over(e)
					return
				}
				if !goOn() {
					return
				}
				for i, p := range puts {
					m.Store(p.At, p.Word)
					if !goOn() {
						return
					}
					if i+1 == len(puts) || puts[i+1].At/64 != p.At/64 {
						m.Flush(client, p.At)
						if !goOn() {
							return
						}
						m.Fence(client)
						if !goOn() {
							return
						}
					}
				}
			}
		}
	}
}

// alike holds a hold, step by step, against the chapter's words, in two sites that are alike, to both of which something may be done ahead of each step; is it done within so many?
func alike(t *testing.T, l *land, client int, at api.Addr, key uint64, most int, meanwhile func(step int, both func(deed))) (*hold.Hold, *site.Site) {
	t.Helper()
	x, y := l.site(), l.site()
	h := hold.New(x, client, at, key)
	next, stop := iter.Pull(plainly(y, client, at, key))
	defer stop()
	for i := range most {
		meanwhile(i, func(d deed) { d(x); d(y) })
		through, e := h.Step()
		want, ok := next()
		if !ok || through != want.done || e != want.code {
			t.Fatalf("step %d: %v, %d, not %v", i, through, e, want)
		}
		if !x.Mem().Same(y.Mem()) || x.Mem().Stats() != y.Mem().Stats() || !x.Locks().Same(y.Locks()) {
			t.Fatalf("step %d does something else: %v, not %v", i, x.Mem().Stats(), y.Mem().Stats())
		}
		switch {
		case !through:
			tells(t, h, 0, api.Node{}, api.ErrState, 0, false)
		case e != api.OK:
			tells(t, h, 0, api.Node{}, e, 0, false)
		default:
			tells(t, h, want.at, want.node, e, want.high, want.has)
		}
		if through {
			stays(t, h, x, e)
			return h, x
		}
	}
	return nil, nil
}

// anyhow is nodes as they come, with entries that are not valid, and stale ones, or such as no change leaves, which lead to one another, and now and then to nowhere.
func anyhow(t *testing.T, d *dice) (*land, []api.Addr) {
	t.Helper()
	l := bare(t, 2)
	var at []api.Addr
	for range 10 {
		at = append(at, l.block(3))
	}
	lead := func() api.Addr {
		if d.roll(25) == 0 {
			return []api.Addr{0, 8, 64, 1088 + 8, 3072, math.MaxUint64, 3, 1024}[d.roll(8)]
		}
		return at[d.roll(len(at))]
	}
	rises := d.roll(3) > 0
	for _, a := range at {
		n := api.Node{Level: d.roll(4), Low: uint64(d.roll(9)), Count: uint64(d.roll(3)), First: lead()}
		if d.roll(2) == 0 {
			n.Next = lead()
		}
		key, ahead := n.Low, n.First
		for p := range d.roll(api.Fan + 1) {
			n.Keys[p], n.Ptrs[p] = uint64(d.roll(30)), lead()
			if rises {
				key += uint64(1 + d.roll(3))
				n.Keys[p], n.Ptrs[p] = key, api.Addr(4096+64*p)
			}
			if d.roll(9) == 0 {
				n.Ptrs[p] = ahead
			}
			ahead = n.Ptrs[p]
		}
		l.lay(a, n)
	}
	l.root(at[0])
	if d.roll(2) == 0 {
		l.lasts()
	}
	return l, at
}

// disturbed is a deed of somebody else: stores to nodes, what makes them last, or not, and what is done to locks.
func disturbed(d *dice, at []api.Addr) deed {
	a, k, w := at[d.roll(len(at))], d.roll(24), uint64(d.roll(30))
	if k == 2 || k == 4 || k > 8 && k%2 > 0 {
		w = uint64(at[d.roll(len(at))])
	}
	line, other := a+api.Addr(64*d.roll(3)), 60+d.roll(3)
	switch d.roll(9) {
	case 0:
		return func(x *site.Site) { x.Mem().Flush(other, line) }
	case 1:
		return func(x *site.Site) { x.Mem().Fence(other) }
	case 2:
		return func(x *site.Site) { x.Mem().Evict(line, 2) }
	case 3:
		return func(x *site.Site) { x.Locks().Try(other, a) }
	case 4, 5:
		return func(x *site.Site) { x.Locks().Release(other, a) }
	case 6:
		return func(x *site.Site) { site.Drop(x, other) }
	}
	return func(x *site.Site) { x.Mem().Store(a+api.Addr(8*k), w) }
}

// P16.1: in whatever arena, and whatever others store, flush, evict, lock meanwhile, a hold does, step by step, what the chapter says, and nothing else.
func TestAnyhow(t *testing.T) {
	ends, mended, waited := map[api.Errno]int{}, 0, 0
	for seed := range 8000 {
		d := dice(seed)
		l, at := anyhow(t, &d)
		often, client := 1+d.roll(90), d.roll(60)
		h, x := alike(t, l, client, at[d.roll(len(at))], uint64(d.roll(20)), 600, func(i int, both func(deed)) {
			if d.roll(often) == 0 || i == 0 && d.roll(2) == 0 {
				both(disturbed(&d, at))
			}
		})
		if h == nil {
			waited++
			continue
		}
		_, _, e := h.At()
		ends[e]++
		if e == api.OK && x.Mem().Stats().Fences > l.mem.Stats().Fences {
			mended++
		}
		if had := len(x.Locks().Held(client)) > 0; had != (e == api.OK) || h.Release() != had {
			t.Fatal("ended by", e, "had a lock:", had)
		}
		locks(t, x, client, 0)
	}
	if ends[api.OK] < 1500 || ends[api.ErrRange] < 50 || ends[api.ErrBytes] < 50 || ends[api.ErrArg] < 50 || mended < 500 || waited < 50 {
		t.Error("too few that tell something:", ends, mended, waited)
	}
}

// P16.1: likewise in arenas that may be, where nobody stores.
func TestStepByStep(t *testing.T) {
	for seed := range 12 {
		l := grown(t, 200+seed, seed%2 == 0)
		for i, key := range l.keys() {
			level := i % len(l.levels)
			if h, _ := alike(t, l, i%api.MaxClients, l.levels[level][0].at, key, 200*(len(l.levels[level])+1), func(int, func(deed)) {}); h == nil {
				t.Fatal("not done:", key)
			}
		}
	}
	everyTorn(t, func(l *land, at api.Addr) {
		if h, _ := alike(t, l, 1, at, 7, 400, func(int, func(deed)) {}); h == nil {
			t.Fatal("not done")
		}
	})
}
