package parent_test

import (
	"iter"
	"maps"
	"slices"
	"testing"

	"levee/api"
	"levee/fast"
	"levee/hold"
	"levee/node"
	"levee/parent"
	"levee/run"
	"levee/site"
	"levee/slab"
	"levee/split"
	"levee/super"
	"levee/walk"
)

// tally is how often what was worth telling happened.
type tally struct {
	paid    [3]int // how much was paid, by level
	hops    int    // how much of that was found owed, on a way by Next
	left    int    // how much was left, since no block was free
	crashed [4]int // on the way of how many the power went: without a lock, with a node's, with the root's, with the node's while a block is under way
	waited  [2]int // how many steps were spent waiting for a node's lock, for the root's
	height  [4]int // behind how many eras the root was of that level
	freed   int    // how many blocks were given back behind a crash
}

// party is clients who write in one arena at once, each by walks, holds, runs, splits and parents, in turns as chance has it.
type party struct {
	*tally
	t    *testing.T
	d    dice
	x    *site.Site
	ptrs int                 // how many values there were; nobody reads them
	now  map[uint64]api.Addr // what is seen: where each key leads
	was  map[uint64]api.Addr // of each key whose change is on its way, where it led ahead of it
	on   map[int]bool        // the clients that pay
}

// meet is a party in an arena of a leaf.
func meet(t *testing.T, seed int, count *tally) *party {
	t.Helper()
	d := dice(seed)
	l := bare(t, 1+d.roll(12))
	leaf := l.block(3)
	l.lay(leaf, api.Node{First: leaf})
	l.root(leaf)
	l.lasts()
	return &party{tally: count, t: t, d: d, x: l.site(), now: map[uint64]api.Addr{}, was: map[uint64]api.Addr{}, on: map[int]bool{}}
}

// found is what some bytes have: where each key leads, all nodes by level, each with its Low, and what leads to them.
type found struct {
	keys  map[uint64]api.Addr
	nodes []map[api.Addr]uint64
	links map[debt]bool
}

// sees looks at some bytes, and holds that all nodes, and chains, may be, that children are there, and that all are in use.
func (p *party) sees(image []byte, blocks *slab.Slab) found {
	at := api.Addr(wordAt(p.t, image, super.RootAt()))
	levels := seen(p.t, image, at).Level + 1
	f := found{nodes: make([]map[api.Addr]uint64, levels), links: map[debt]bool{}}
	for level := levels - 1; level >= 0; level-- {
		f.nodes[level], f.keys = map[api.Addr]uint64{}, map[uint64]api.Addr{}
		first := at
		for low := uint64(0); at != 0; {
			n, high := seen(p.t, image, at), uint64(0)
			if n.Next != 0 {
				high = wordAt(p.t, image, n.Next+8)
			}
			if n.Level != level || n.Low != low || !node.May(n, high, n.Next != 0) || blocks.Is(at) != 2 {
				p.t.Fatalf("at %d is %v, by %d, in a block that is %d", at, n, high, blocks.Is(at))
			}
			f.nodes[level][at] = low
			if level > 0 {
				f.links[debt{level, low, n.First}] = true
			}
			for _, e := range node.Active(n, high, n.Next != 0) {
				f.keys[e.Key] = e.Ptr
				f.links[debt{level, e.Key, e.Ptr}] = true
			}
			at, low = n.Next, high
		}
		at = seen(p.t, image, first).First
	}
	for k := range f.links {
		if k.level == 0 {
			continue
		}
		if low, is := f.nodes[k.level-1][k.child]; !is || low != k.low {
			p.t.Fatal("leads to no child:", k)
		}
	}
	return f
}

// view is what is seen.
func (p *party) view() found {
	return p.sees(p.x.Mem().View(), p.x.Slab())
}

// goes is what a client does, a step each time, up to whenever it is stopped.
func (p *party) goes(c int) iter.Seq[bool] {
	return func(yield func(bool) bool) {
		defer func() {
			if r := recover(); r != nil && r != any(stopped{}) {
				panic(r)
			}
		}()
		for {
			p.turn(c, func() {
				if !yield(true) {
					panic(stopped{})
				}
			})
		}
	}
}

// does does a machine's steps, of which each changes nothing of what keys lead to.
func (p *party) does(c int, step func() (bool, api.Errno), pause func()) api.Errno {
	m, locks := p.x.Mem(), p.x.Locks()
	for {
		stats := m.Stats()
		through, e := step()
		d := done(m, stats)
		if d.Loads+d.Stores+d.Flushes+d.Fences > 1 {
			p.t.Fatal("a step did", d)
		}
		if d.Stores > 0 && !maps.Equal(p.view().keys, p.now) {
			p.t.Fatalf("seen is another map than %v", p.now)
		}
		if id, waits := locks.Wants(c); waits {
			p.waited[max(0, 1-int(id/64))]++
		}
		if through {
			return e
		}
		pause()
	}
}

// leaf is a client's hold of the leaf in whose range a key is; and the node to which the way went by Next last, if it did so.
func (p *party) leaf(c int, key uint64, pause func()) (*hold.Hold, uint64, api.Addr, bool) {
	w := walk.New(p.x, c, key, 0)
	if e := p.does(c, w.Step, pause); e != api.OK {
		p.t.Fatal("a walk:", e)
	}
	at, _, _ := w.At()
	h := hold.New(p.x, c, at, key)
	if e := p.does(c, h.Step, pause); e != api.OK {
		p.t.Fatal("a hold:", e)
	}
	low, to, was := w.Hop()
	return h, low, to, was
}

// changes does a change of a key by a run: it leads to that behind it.
func (p *party) changes(c int, puts []api.Put, e api.Errno, key uint64, ptr api.Addr, pause func()) {
	if e != api.OK {
		p.t.Fatal("a change:", e)
	}
	r := run.New(p.x.Mem(), c, puts...)
	p.was[key] = p.now[key]
	for through := false; !through; {
		stores := p.x.Mem().Stats().Stores
		if through, e = r.Step(); e != api.OK {
			p.t.Fatal("a run:", e)
		}
		if p.x.Mem().Stats().Stores > stores {
			keys := p.view().keys
			if keys[key] == ptr {
				p.now[key] = ptr
				if ptr == 0 {
					delete(p.now, key)
				}
			}
			if !maps.Equal(keys, p.now) {
				p.t.Fatalf("seen is %v, and it was to be %v", keys, p.now)
			}
		}
		if through {
			delete(p.was, key)
		}
		pause()
	}
}

// turn changes a key, or splits its leaf, and pays what is owed above.
func (p *party) turn(c int, pause func()) {
	key := uint64(10 * p.d.roll(220))
	h, low, to, owed := p.leaf(c, key, pause)
	at, n, _ := h.At()
	_, there := node.Find(n, key)
	p.ptrs++
	ptr := api.Addr(1<<20 + 64*p.ptrs)
	switch {
	case there && p.d.roll(4) == 0:
		l, e := fast.Delete(at, n, key)
		p.changes(c, l, e, key, 0, pause)
	case there:
		l, e := fast.Swap(at, n, key, ptr)
		p.changes(c, l, e, key, ptr, pause)
	case node.Len(n) < api.Fan:
		l, e := fast.Insert(at, n, key, ptr)
		p.changes(c, l, e, key, ptr, pause)
	default:
		s := split.New(p.x, c, h)
		if e := p.does(c, s.Step, pause); e != api.OK && e != api.ErrFull {
			p.t.Fatal("a split:", e)
		}
		h.Release()
		if low, to, ok := s.Made(); ok && p.d.roll(4) > 0 {
			p.pays(c, debt{1, low, to}, pause)
		}
	}
	h.Release()
	if owed && p.d.roll(3) > 0 {
		p.hops++
		p.pays(c, debt{1, low, to}, pause)
	}
}

// pays pays what is owed, and holds that it is there behind it, or was left, and that there is no lock.
func (p *party) pays(c int, d debt, pause func()) {
	r := parent.New(p.x, c, d.level, d.low, d.child)
	p.on[c] = true
	full, height := false, len(p.view().nodes)
	e := p.does(c, func() (bool, api.Errno) {
		full = full || p.x.Slab().Room(3) == 0
		through, e := r.Step()
		if held := p.x.Locks().Held(c); len(held) > 1 || through && len(held) > 0 {
			p.t.Fatal("locks:", held)
		}
		return through, e
	}, pause)
	delete(p.on, c)
	_, waits := p.x.Locks().Wants(c)
	if e != api.OK || waits {
		p.t.Fatal("a parent:", e, waits)
	}
	f := p.view()
	switch {
	case r.Left() && full:
		p.left++
	case r.Left() || !f.links[d]:
		p.t.Fatal("what is owed is not there:", d)
	default:
		p.paid[min(2, len(f.nodes)-height)]++
	}
}

// era lets so many clients go on, in turns, for so many steps, while lines are evicted; then the power goes.
func (p *party) era(clients, steps int) {
	var next []func() (bool, bool)
	for c := range clients {
		n, stop := iter.Pull(p.goes(c))
		defer stop()
		next = append(next, n)
	}
	one, m := p.d.roll(clients), p.x.Mem()
	far := p.d.roll(4)
	for range steps + 3000 {
		if steps--; steps < 0 && slices.Contains(p.stages(), far) {
			break // most of the time is spent elsewhere
		}
		if p.d.roll(4) == 0 {
			one = p.d.roll(clients)
		}
		next[one]()
		if lines := m.Lines(); len(lines) > 0 && p.d.roll(9) == 0 {
			m.Evict(lines[p.d.roll(len(lines))], 1+p.d.roll(3))
		}
	}
	p.crash()
}

// stages are how far those have come that pay.
func (p *party) stages() []int {
	var list []int
	for c := range p.on {
		held := p.x.Locks().Held(c)
		switch {
		case len(held) == 0:
			list = append(list, 0)
		case held[0] == super.RootAt():
			list = append(list, 2)
		case p.x.Mem().Pending(held[0])+p.x.Mem().Pending(held[0]+64)+p.x.Mem().Pending(held[0]+128) > 0:
			list = append(list, 1)
		case len(p.x.Mem().Lines()) > 0:
			list = append(list, 3)
		}
	}
	return list
}

// crash holds that behind it each key leads where it led, or, where a change was on its way, where it led ahead of it, and that nothing is lost of what was paid; what is in use and not reached is given back then.
func (p *party) crash() {
	for _, stage := range p.stages() {
		p.crashed[stage]++
	}
	m := p.x.Mem()
	m.Crash(p.d.roll(9), p.d.roll(9), p.d.roll(9))
	x := siteOf(p.t, m, api.MaxClients)
	left := p.sees(m.View(), x.Slab())
	for _, key := range slices.Concat(slices.Collect(maps.Keys(left.keys)), slices.Collect(maps.Keys(p.now))) {
		was, on := p.was[key]
		if left.keys[key] != p.now[key] && !(on && left.keys[key] == was) {
			p.t.Fatalf("behind a crash the key %d leads to %d, not to %d (%d, %v)", key, left.keys[key], p.now[key], was, on)
		}
	}
	for _, a := range x.Slab().Used() {
		if !slices.ContainsFunc(left.nodes, func(l map[api.Addr]uint64) bool { _, is := l[a]; return is }) {
			turn, e := x.Slab().Free(m, api.System, a)
			if _, _, f := site.Whole(m, turn.Step, 20); e != api.OK || f != api.OK {
				p.t.Fatal(e, f)
			}
			p.freed++
		}
	}
	p.height[min(3, len(left.nodes)-1)]++
	p.x, p.now, p.was, p.on = x, left.keys, map[uint64]api.Addr{}, map[int]bool{}
}

// P0.1, P0.3, P18.1, P18.2: clients who write at once, in several eras, and pay what they owe above, in arenas that are full now and then: no step of a parent changes anything of what keys lead to, and behind each crash all is there.
func TestParty(t *testing.T) {
	count := tally{}
	for seed := range 40 {
		p := meet(t, seed, &count)
		for range 12 {
			p.era(1+p.d.roll(5), 50+p.d.roll(6000))
		}
	}
	if count.paid[0] < 500 || count.paid[1] < 50 || count.hops < 200 || count.left < 10 || slices.Min(count.crashed[:]) < 10 || slices.Min(count.waited[:]) < 100 || count.height[2] < 50 || count.freed < 8 {
		t.Errorf("too few that tell something: %+v", count)
	}
}

// turns lets two parents go on in turns, so many steps each time, up to both ends: how many steps each did.
func turns(t *testing.T, some [2]*parent.Parent, each [2]int, behind func()) [2]int {
	var steps [2]int
	var over [2]bool
	for i := 0; !over[0] || !over[1]; i = 1 - i {
		for range each[i] {
			if over[i] {
				break
			}
			var e api.Errno
			if over[i], e = some[i].Step(); e != api.OK {
				t.Fatal(e)
			}
			if steps[i]++; steps[i] > 20000 {
				t.Fatal("not done")
			}
			behind()
		}
	}
	return steps
}

// P18.1, P18.2: two in turns, of all that is owed in an arena, the same one too, however fast each of them is: both are done, and all is there.
func TestTwoInTurns(t *testing.T) {
	longest := 0
	for i, l := range append(some(t), cascade(t, 3, 40), cascade(t, 4, 30)) {
		keys, d, list := l.keys(), dice(i), l.debts()
		were := entries(t, l.mem.View(), 1, keys)
		rounds := 40
		if i >= 12 {
			rounds = 12
		}
		for range rounds {
			x := l.site()
			a, b := list[d.roll(len(list))], list[d.roll(len(list))]
			if i >= 12 && d.roll(2) == 0 {
				a, b = list[0], list[0]
			}
			two := [2]*parent.Parent{a.of(x, 5), b.of(x, 6)}
			if d.roll(2) == 0 {
				for range d.roll(300) {
					two[0].Step()
				}
			}
			stores, count := x.Mem().Stats().Stores, 0
			steps := turns(t, two, [2]int{1 + d.roll(3)*d.roll(9), 1 + d.roll(3)*d.roll(9)}, func() {
				if s := x.Mem().Stats().Stores; s > stores {
					if stores, count = s, count+1; count%8 == 0 && i < 12 {
						sound(t, x.Mem().View())
						kept(x.Mem(), func(image []byte) { sound(t, image) })
					}
				}
			})
			longest = max(longest, steps[0], steps[1])
			now := sound(t, x.Mem().View())
			if links := now.links(); !links[a] || !links[b] || len(now.leaks()) > 0 || len(x.Mem().Lines()) > 0 {
				t.Fatal("what is owed is not there, or leaked:", a, b, now.leaks())
			}
			if !slices.Equal(entries(t, x.Mem().View(), 1, keys), were) || len(x.Locks().Held(5))+len(x.Locks().Held(6)) > 0 {
				t.Fatal("a key leads to somewhere else, or a lock is left")
			}
		}
	}
	if longest < 5000 {
		t.Error("too few that tell something:", longest)
	}
}
