package split_test

import (
	"iter"
	"maps"
	"slices"
	"testing"

	"levee/api"
	"levee/fast"
	"levee/hold"
	"levee/node"
	"levee/run"
	"levee/site"
	"levee/slab"
	"levee/split"
	"levee/super"
	"levee/walk"
)

// tally is how often what was worth telling happened.
type tally struct {
	split   [2]int // how many were done, by level
	full    int    // how many were refused, since no block was free
	broken  int    // of how many the hold was released on the way
	crashed [4]int // on the way of how many the power went, by how far they had come: writing, publishing, linking, cutting
	waited  int    // how many steps were spent waiting
	freed   int    // how many blocks were given back behind a crash
}

// party is clients who write in one arena at once, each by walks, holds, runs and splits, in turns as chance has it.
type party struct {
	*tally
	t    *testing.T
	d    dice
	x    *site.Site
	ptrs int                 // how many values there were; nobody reads them
	now  map[uint64]api.Addr // what is seen: where each key leads
	was  map[uint64]api.Addr // of each key whose change is on its way, where it led ahead of it
	on   map[int]int         // of each client that splits how many steps it has done
}

// meet is a party in an arena of a leaf, and of a root above it.
func meet(t *testing.T, seed int, count *tally) *party {
	t.Helper()
	d := dice(seed)
	l := bare(t, 2+d.roll(9))
	leaf, root := l.block(3), l.block(3)
	l.lay(leaf, api.Node{First: leaf})
	l.lay(root, api.Node{Level: 1, First: leaf})
	l.root(root)
	l.lasts()
	return &party{tally: count, t: t, d: d, x: l.site(), now: map[uint64]api.Addr{}, was: map[uint64]api.Addr{}, on: map[int]int{}}
}

// sees is where each key leads by some bytes, and holds that all nodes may be, and both levels' chains, and that they are in use; it tells the nodes, too.
func (p *party) sees(image []byte, blocks *slab.Slab) (map[uint64]api.Addr, []api.Addr) {
	root := api.Addr(wordAt(p.t, image, super.RootAt()))
	children, above := p.along(image, blocks, root)
	leaves, below := p.along(image, blocks, seen(p.t, image, root).First)
	for low, at := range children {
		if n := seen(p.t, image, at); n.Low != low || n.Level != 0 || !slices.Contains(below, at) {
			p.t.Fatalf("a child of the key %d: %v", low, n)
		}
	}
	return leaves, append(above, below...)
}

// along is where each key of a chain's active entries leads, from its first node on, and the nodes.
func (p *party) along(image []byte, blocks *slab.Slab, at api.Addr) (map[uint64]api.Addr, []api.Addr) {
	has, nodes := map[uint64]api.Addr{}, []api.Addr{}
	for low := uint64(0); at != 0; {
		n, high := seen(p.t, image, at), uint64(0)
		if n.Next != 0 {
			high = seen(p.t, image, n.Next).Low
		}
		if n.Low != low || !node.May(n, high, n.Next != 0) || blocks.Is(at) != 2 {
			p.t.Fatalf("at %d is %v, by %d, in a block that is %d", at, n, high, blocks.Is(at))
		}
		for _, e := range node.Active(n, high, n.Next != 0) {
			has[e.Key] = e.Ptr
		}
		nodes = append(nodes, at)
		at, low = n.Next, high
	}
	return has, nodes
}

// unchanged holds that what is seen is what it was.
func (p *party) unchanged() {
	if has, _ := p.sees(p.x.Mem().View(), p.x.Slab()); !maps.Equal(has, p.now) {
		p.t.Fatalf("seen is %v, and was %v", has, p.now)
	}
}

// stopped is what a client's doings end with, when the power goes.
type stopped struct{}

// goes is what a client does, a step each time, up to whenever it is stopped.
func (p *party) goes(c int) iter.Seq[bool] {
	return func(yield func(bool) bool) {
		defer func() {
			if r := recover(); r != nil && r != any(stopped{}) {
				panic(r)
			}
		}()
		for {
			p.turn(c, func() {
				if !yield(true) {
					panic(stopped{})
				}
			})
		}
	}
}

// holds is a client's hold of the node of a level in whose range a key is.
func (p *party) holds(c int, key uint64, level int, pause func()) *hold.Hold {
	p.t.Helper()
	w := walk.New(p.x, c, key, level)
	for through := false; !through; pause() {
		var e api.Errno
		if through, e = w.Step(); e != api.OK {
			p.t.Fatal("a walk:", e)
		}
	}
	at, _, _ := w.At()
	h := hold.New(p.x, c, at, key)
	for through := false; !through; pause() {
		var e api.Errno
		if through, e = h.Step(); e != api.OK {
			p.t.Fatal("a hold:", e)
		}
		if _, waits := p.x.Locks().Wants(c); waits {
			p.waited++
		}
	}
	return h
}

// runs does stores to a hold's node by a run; of a change of a key, it leads to that behind it.
func (p *party) runs(c int, h *hold.Hold, puts []api.Put, e api.Errno, then map[uint64]api.Addr, pause func()) {
	p.t.Helper()
	if e != api.OK {
		p.t.Fatal("a change:", e)
	}
	r := run.New(p.x.Mem(), c, puts...)
	for key := range then {
		p.was[key] = p.now[key]
	}
	for through := false; !through; pause() {
		if through, e = r.Step(); e != api.OK {
			p.t.Fatal("a run:", e)
		}
		seen, _ := p.sees(p.x.Mem().View(), p.x.Slab())
		for key, ptr := range then {
			if seen[key] == ptr {
				p.set(key, ptr)
			}
		}
		if !maps.Equal(seen, p.now) {
			p.t.Fatalf("seen is %v, and it was to be %v", seen, p.now)
		}
		if through {
			for key := range then {
				delete(p.was, key)
			}
		}
	}
	if e := h.Apply(puts...); e != api.OK {
		p.t.Fatal("Apply:", e)
	}
}

// set lets a key lead there; 0: it is not there.
func (p *party) set(key uint64, ptr api.Addr) {
	p.now[key] = ptr
	if ptr == 0 {
		delete(p.now, key)
	}
}

// turn changes a key, or splits its leaf.
func (p *party) turn(c int, pause func()) {
	p.t.Helper()
	key := uint64(10 * p.d.roll(150))
	h := p.holds(c, key, 0, pause)
	at, n, _ := h.At()
	i, there := node.Find(n, key)
	if there != (p.now[key] != 0) || there && n.Ptrs[i] != p.now[key] {
		p.t.Fatalf("the key %d leads to %d, and a hold has %v", key, p.now[key], n)
	}
	p.ptrs++
	ptr := api.Addr(1<<20 + 64*p.ptrs)
	switch {
	case there && p.d.roll(3) == 0:
		l, e := fast.Delete(at, n, key)
		p.runs(c, h, l, e, map[uint64]api.Addr{key: 0}, pause)
	case there:
		l, e := fast.Swap(at, n, key, ptr)
		p.runs(c, h, l, e, map[uint64]api.Addr{key: ptr}, pause)
	case node.Len(n) < api.Fan:
		l, e := fast.Insert(at, n, key, ptr)
		p.runs(c, h, l, e, map[uint64]api.Addr{key: ptr}, pause)
	default:
		low, to, ok := p.splits(c, h, pause)
		h.Release()
		if ok && p.d.roll(3) > 0 {
			p.owed(c, low, to, pause)
		}
		return
	}
	if !h.Release() {
		p.t.Fatal("Release")
	}
}

// owed lets a level above know of a node, as far as chance has it.
func (p *party) owed(c int, low uint64, to api.Addr, pause func()) {
	p.t.Helper()
	for range 3 {
		h := p.holds(c, low, 1, pause)
		at, n, _ := h.At()
		_, there := node.Find(n, low)
		switch {
		case there || n.Low == low:
		case node.Len(n) < api.Fan:
			l, e := fast.Insert(at, n, low, to)
			p.runs(c, h, l, e, nil, pause)
		default:
			_, _, ok := p.splits(c, h, pause) // what that one is owed stays so: it is reached by Next
			h.Release()
			if ok {
				continue
			}
			return
		}
		h.Release()
		return
	}
}

// splits lets a hold's node become two: each step changes nothing of what is seen.
func (p *party) splits(c int, h *hold.Hold, pause func()) (uint64, api.Addr, bool) {
	p.t.Helper()
	m, locks := p.x.Mem(), p.x.Locks()
	at, was, _ := h.At()
	s := split.New(p.x, c, h)
	broken := p.d.roll(600)
	held := locks.Held(c)
	for {
		if p.on[c] == broken {
			p.broken++
			h.Release()
		}
		stats := m.Stats()
		through, e := s.Step()
		d := done(m, stats)
		if p.unchanged(); d.Loads > 0 || d.Stores+d.Flushes+d.Fences > 1 {
			p.t.Fatal("a step did", d)
		}
		if through {
			defer delete(p.on, c)
			return p.ended(h, s, at, was, e, p.on[c] >= broken)
		}
		if !slices.Equal(locks.Held(c), held) {
			p.t.Fatal("a split does something to locks")
		}
		p.on[c]++
		pause()
	}
}

// ended holds what a split came to.
func (p *party) ended(h *hold.Hold, s *split.Split, at api.Addr, was api.Node, e api.Errno, broken bool) (uint64, api.Addr, bool) {
	p.t.Helper()
	low, to, ok := s.Made()
	view, image := p.x.Mem().View(), p.x.Mem().Image()
	switch {
	case e == api.ErrState && broken && !ok:
	case e == api.ErrFull && !ok && p.x.Slab().Room(3) == 0:
		if _, n, _ := h.At(); n != was {
			p.t.Fatal("a split that is refused changes the hold")
		}
		p.full++
	case e == api.OK && ok && !broken:
		left, right := halves(was, to)
		if _, n, e := h.At(); low != was.Keys[4] || cut(n) != left || e != api.OK || cut(seen(p.t, view, at)) != left {
			p.t.Fatalf("a split of %v: %d, %v, %d", was, low, n, e)
		}
		if n := seen(p.t, image, at); n.Next == 0 || node.Len(n) > 4 {
			p.t.Fatalf("lasted has %v", n)
		}
		// Others may have changed the new one meanwhile, since they come to it by Next.
		if n := seen(p.t, image, to); n.Low != right.Low || n.Level != right.Level || n.First != right.First || p.x.Slab().Is(to) != 2 {
			p.t.Fatalf("lasted has %v, not %v", n, right)
		}
		p.split[was.Level]++
	default:
		p.t.Fatal("a split:", e, ok, broken)
	}
	return low, to, ok
}

// era lets so many clients go on, in turns, for so many steps, while lines are evicted; then the power goes.
func (p *party) era(clients, steps int) {
	p.t.Helper()
	var next []func() (bool, bool)
	for c := range clients {
		n, stop := iter.Pull(p.goes(c))
		defer stop()
		next = append(next, n)
	}
	one, far, m := p.d.roll(clients), 24+p.d.roll(24), p.x.Mem()
	for range steps + 2000 {
		if steps--; steps < 0 && slices.Contains(slices.Collect(maps.Values(p.on)), far) {
			break // most of the time is spent elsewhere
		}
		if p.d.roll(4) == 0 {
			one = p.d.roll(clients)
		}
		next[one]()
		if lines := m.Lines(); len(lines) > 0 && p.d.roll(9) == 0 {
			m.Evict(lines[p.d.roll(len(lines))], 1+p.d.roll(3))
		}
	}
	p.crash()
}

// crash holds that behind it each key leads where it led, or, where a change was on its way, where it led ahead of it; what is in use and not reached is given back then.
func (p *party) crash() {
	p.t.Helper()
	for _, steps := range p.on {
		stage := 0
		for _, ends := range []int{30, 34, 39} {
			if steps >= ends {
				stage++
			}
		}
		p.crashed[stage]++
	}
	m := p.x.Mem()
	m.Crash(p.d.roll(9), p.d.roll(9), p.d.roll(9))
	x := siteOf(p.t, m, api.MaxClients)
	left, nodes := p.sees(m.View(), x.Slab())
	for _, key := range slices.Concat(slices.Collect(maps.Keys(left)), slices.Collect(maps.Keys(p.now))) {
		was, on := p.was[key]
		if left[key] != p.now[key] && !(on && left[key] == was) {
			p.t.Fatalf("behind a crash the key %d leads to %d, not to %d (%d, %v)", key, left[key], p.now[key], was, on)
		}
	}
	for _, a := range x.Slab().Used() {
		if !slices.Contains(nodes, a) {
			turn, e := x.Slab().Free(m, api.System, a)
			if _, _, f := site.Whole(m, turn.Step, 20); e != api.OK || f != api.OK {
				p.t.Fatal(e, f)
			}
			p.freed++
		}
	}
	p.x, p.now, p.was, p.on = x, left, map[uint64]api.Addr{}, map[int]int{}
}

// P0.1, P0.3, P17.1, P17.2: clients who write at once, in several eras, and whose leaves, and nodes above, become two, in arenas that are full now and then: no step of a split changes anything of what is seen, and behind each crash all is there.
func TestParty(t *testing.T) {
	count := tally{}
	for seed := range 50 {
		p := meet(t, seed, &count)
		for range 12 {
			p.era(1+p.d.roll(5), 50+p.d.roll(7000))
		}
		p.unchanged()
	}
	if count.split[0] < 500 || count.split[1] < 20 || count.full < 50 || count.broken < 20 || slices.Min(count.crashed[:]) < 20 || count.waited < 1000 || count.freed < 30 {
		t.Errorf("too few that tell something: %+v", count)
	}
}

// P0.1, P0.3, P17.2: two splits go on at once, whose new nodes lie in one slab: behind each step of either, and whatever a crash keeps, all is where it was.
func TestTwoAtOnce(t *testing.T) {
	for pause := range 48 {
		for every := 1; every < 3; every++ {
			l, at := lone(t, 0, 2, 0, 2, 10, 20, 30, 40, 50, 60, 70, 80)
			x, keys := l.site(), l.keys()
			were, leaks := entries(t, l.mem.View(), 1, keys), len(sound(t, l.mem.View()).leaks())
			look := func(image []byte) {
				found := sound(t, image)
				if len(found.leaks()) > leaks+2 || !slices.Equal(entries(t, image, 1, keys), were) {
					t.Fatal("something is lost, or leaked:", found.leaks())
				}
			}
			first := split.New(x, 5, owner(t, x, 5, spot{at, 0}))
			second := split.New(x, 6, owner(t, x, 6, l.levels[0][1]))
			for range pause {
				first.Step()
			}
			for step, through := 0, 0; through < 2; step++ {
				through = 0
				for _, s := range []*split.Split{first, second} {
					if s == second && step%every > 0 {
						continue
					}
					done, e := s.Step()
					if e != api.OK {
						t.Fatal(e)
					}
					if done {
						through++
					}
					look(x.Mem().View())
					if pause%4 == 0 {
						kept(x.Mem(), look)
					}
				}
			}
			_, a, _ := first.Made()
			_, b, _ := second.Made()
			if a == b || x.Slab().Is(a) != 2 || x.Slab().Is(b) != 2 || len(x.Mem().Lines()) > 0 {
				t.Fatal(a, b, x.Mem().Lines())
			}
			if found := sound(t, x.Mem().Image()); len(found.leaks()) != leaks || len(found.levels[0]) != 4 {
				t.Fatal(found.levels, found.leaks())
			}
		}
	}
}
