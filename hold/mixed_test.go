package hold_test

import (
	"iter"
	"maps"
	"math"
	"slices"
	"testing"

	"levee/api"
	"levee/fast"
	"levee/hold"
	"levee/node"
	"levee/pmem"
	"levee/run"
	"levee/site"
	"levee/super"
	"levee/walk"
)

// party is clients who write in one arena at once, each by walks, holds and runs, in turns as chance has it.
type party struct {
	*land
	d      dice
	x      *site.Site
	free   []api.Addr          // blocks for nodes that nothing leads to as yet
	ptrs   int                 // how many values there were; nobody reads them
	now    map[uint64]api.Addr // what is seen: where each key leads
	was    map[uint64]api.Addr // of each key whose change is on its way, where it led ahead of it
	mended int                 // how many holds stored something
	hopped int                 // how many came to another node than that from which they went on
	waited int                 // how many steps were spent waiting
}

// meet is a party in an arena of a leaf, and of a root above it.
func meet(t *testing.T, seed int) *party {
	t.Helper()
	p := &party{land: bare(t, 20), d: dice(seed), now: map[uint64]api.Addr{}, was: map[uint64]api.Addr{}}
	for range 95 {
		p.free = append(p.free, p.block(3))
	}
	leaf, root := p.taken(), p.taken()
	p.lay(leaf, api.Node{First: leaf})
	p.lay(root, api.Node{Level: 1, First: leaf})
	p.root(root)
	p.lasts()
	p.x = p.site()
	return p
}

// taken takes a block for a node off.
func (p *party) taken() api.Addr {
	p.t.Helper()
	if len(p.free) == 0 {
		p.t.Fatal("too few blocks")
	}
	a := p.free[0]
	p.free = p.free[1:]
	return a
}

// sees is where each key leads by some bytes, and holds that all nodes may be, and all levels' chains.
func (p *party) sees(image []byte) map[uint64]api.Addr {
	p.t.Helper()
	root := api.Addr(wordAt(p.t, image, super.RootAt()))
	children, leaves := p.along(image, root), p.along(image, seen(p.t, image, root).First)
	for low, at := range children {
		if n := seen(p.t, image, at); n.Low != low || n.Level != 0 {
			p.t.Fatalf("a child of the key %d: %v", low, n)
		}
	}
	return leaves
}

// along is where each key of a chain's active entries leads, from its first node on.
func (p *party) along(image []byte, at api.Addr) map[uint64]api.Addr {
	p.t.Helper()
	has := map[uint64]api.Addr{}
	for low := uint64(0); at != 0; {
		n, high := seen(p.t, image, at), uint64(0)
		if n.Next != 0 {
			high = seen(p.t, image, n.Next).Low
		}
		if n.Low != low || !node.May(n, high, n.Next != 0) {
			p.t.Fatalf("at %d is %v, by %d", at, n, high)
		}
		for _, e := range node.Active(n, high, n.Next != 0) {
			has[e.Key] = e.Ptr
		}
		at, low = n.Next, high
	}
	return has
}

// stopped is what a client's doings end with, when the power goes.
type stopped struct{}

// goes is what a client does, a step each time, up to whenever it is stopped.
func (p *party) goes(c int) iter.Seq[bool] {
	return func(yield func(bool) bool) {
		defer func() {
			if r := recover(); r != nil && r != any(stopped{}) {
				panic(r)
			}
		}()
		for {
			p.turn(c, func() {
				if !yield(true) {
					panic(stopped{})
				}
			})
		}
	}
}

// unchanged holds that what is seen is what it was.
func (p *party) unchanged() {
	p.t.Helper()
	if has := p.sees(p.x.Mem().View()); !maps.Equal(has, p.now) {
		p.t.Fatalf("seen is %v, and was %v", has, p.now)
	}
}

// walks is where a client's walk comes to.
func (p *party) walks(c int, key uint64, level int, pause func()) api.Addr {
	p.t.Helper()
	w := walk.New(p.x, c, key, level)
	for through := false; !through; pause() {
		var e api.Errno
		if through, e = w.Step(); e != api.OK {
			p.t.Fatal("a walk:", e)
		}
	}
	at, _, _ := w.At()
	return at
}

// holds is a client's hold; nil if it gives it up.
func (p *party) holds(c int, at api.Addr, key uint64, pause func()) *hold.Hold {
	p.t.Helper()
	m, mends := p.x.Mem(), false
	h := hold.New(p.x, c, at, key)
	for through := false; !through; {
		if p.d.roll(400) == 0 {
			_, waits := p.x.Locks().Wants(c)
			if had := len(p.x.Locks().Held(c)) > 0; h.Release() != had || waits && had {
				p.t.Fatal("Release", had, waits)
			}
			locks(p.t, p.x, c, 0)
			p.unchanged()
			return nil
		}
		stats := m.Stats()
		var e api.Errno
		if through, e = h.Step(); e != api.OK {
			p.t.Fatal("a hold:", e)
		}
		d := done(m, stats)
		mends = mends || d.Stores > 0
		if _, waits := p.x.Locks().Wants(c); waits {
			p.waited++
			if d != (api.Stats{}) || len(p.x.Locks().Held(c)) > 0 {
				p.t.Fatal("one that waits does something, or has a lock")
			}
		}
		if d.Stores > 0 {
			p.unchanged()
		}
		if through {
			p.owns(h, c, key)
		}
		pause()
	}
	if mends {
		p.mended++
	}
	if now, _, _ := h.At(); now != at {
		p.hopped++
	}
	return h
}

// owns holds what is promised of a hold that is done: the lock, the node, that it is whole, its range, and that all of it has lasted.
func (p *party) owns(h *hold.Hold, c int, key uint64) {
	p.t.Helper()
	m := p.x.Mem()
	view := m.View()
	at, n, e := h.At()
	high, bound := h.High()
	if e != api.OK || n != cut(seen(p.t, view, at)) || bound != (n.Next != 0) || bound && high != seen(p.t, view, n.Next).Low {
		p.t.Fatalf("a hold has %v, %d, %d, %v", n, e, high, bound)
	}
	if key < n.Low || bound && key >= high || !node.May(n, high, bound) || node.Invalid(n) >= 0 || len(node.Active(n, high, bound)) != node.Len(n) {
		p.t.Fatalf("for the key %d a hold has %v, by %d, %v", key, n, high, bound)
	}
	if uncounted(n) != uncounted(seen(p.t, m.Image(), at)) {
		p.t.Fatalf("a hold has %v, and lasted has %v", n, seen(p.t, m.Image(), at))
	}
	locks(p.t, p.x, c, 0, at)
}

// runs does stores to a hold's node, or a new one's, by a run; of a change of a key, it leads to that behind it.
func (p *party) runs(c int, h *hold.Hold, puts []api.Put, e api.Errno, then map[uint64]api.Addr, pause func()) {
	p.t.Helper()
	if e != api.OK {
		p.t.Fatal("a change:", e)
	}
	r := run.New(p.x.Mem(), c, puts...)
	for key := range then {
		p.was[key] = p.now[key]
	}
	for through := false; !through; pause() {
		if through, e = r.Step(); e != api.OK {
			p.t.Fatal("a run:", e)
		}
		seen := p.sees(p.x.Mem().View())
		for key, ptr := range then {
			if seen[key] == ptr {
				p.set(key, ptr)
			}
		}
		if !maps.Equal(seen, p.now) {
			p.t.Fatalf("seen is %v, and it was to be %v", seen, p.now)
		}
		if through {
			for key := range then {
				delete(p.was, key)
			}
		}
	}
	if h == nil {
		return
	}
	if e := h.Apply(puts...); e != api.OK {
		p.t.Fatal("Apply:", e)
	}
	at, n, _ := h.At()
	if uncounted(n) != uncounted(seen(p.t, p.x.Mem().View(), at)) || n.Count != seen(p.t, p.x.Mem().View(), at).Count {
		p.t.Fatalf("behind Apply a hold has %v, and seen is %v", n, seen(p.t, p.x.Mem().View(), at))
	}
}

// set lets a key lead there; 0: it is not there.
func (p *party) set(key uint64, ptr api.Addr) {
	p.now[key] = ptr
	if ptr == 0 {
		delete(p.now, key)
	}
}

// turn changes a key, or splits its leaf.
func (p *party) turn(c int, pause func()) {
	p.t.Helper()
	key := uint64(10 * p.d.roll(60))
	from := key
	if p.d.roll(4) == 0 {
		from = uint64(p.d.roll(int(key) + 1)) // as if the walk had been there a while ago
	}
	h := p.holds(c, p.walks(c, from, 0, pause), key, pause)
	if h == nil {
		return
	}
	at, n, _ := h.At()
	_, there := node.Find(n, key)
	if i, ok := node.Find(n, key); ok != (p.now[key] != 0) || ok && n.Ptrs[i] != p.now[key] {
		p.t.Fatalf("the key %d leads to %d, and a hold has %v", key, p.now[key], n)
	}
	p.ptrs++
	ptr := api.Addr(1<<20 + 64*p.ptrs)
	switch {
	case there && p.d.roll(2) == 0:
		l, e := fast.Delete(at, n, key)
		p.runs(c, h, l, e, map[uint64]api.Addr{key: 0}, pause)
	case there:
		l, e := fast.Swap(at, n, key, ptr)
		p.runs(c, h, l, e, map[uint64]api.Addr{key: ptr}, pause)
	case node.Len(n) < api.Fan:
		l, e := fast.Insert(at, n, key, ptr)
		p.runs(c, h, l, e, map[uint64]api.Addr{key: ptr}, pause)
	default:
		p.splits(c, h, pause)
		return
	}
	if !h.Release() {
		p.t.Fatal("Release")
	}
}

// splits lets a hold's node become two, and the one above know of it, where there is room.
func (p *party) splits(c int, h *hold.Hold, pause func()) {
	p.t.Helper()
	at, n, _ := h.At()
	to := p.taken()
	upper := api.Node{Low: n.Keys[4], Next: n.Next, First: to}
	copy(upper.Keys[:], n.Keys[4:])
	copy(upper.Ptrs[:], n.Ptrs[4:])
	var l []api.Put
	for k, w := range node.Words(upper) {
		l = append(l, api.Put{At: to + api.Addr(8*k), Word: w})
	}
	p.runs(c, nil, l, api.OK, nil, pause)
	l, e := fast.Link(at, n, to)
	p.runs(c, h, l, e, nil, pause)
	_, n, _ = h.At()
	l, e = fast.Cut(at, n, upper.Low)
	p.runs(c, h, l, e, nil, pause)
	h.Release()
	if p.d.roll(3) == 0 {
		return // it is owed
	}
	above := p.holds(c, p.walks(c, upper.Low, 1, pause), upper.Low, pause)
	if above == nil {
		return
	}
	at, n, _ = above.At()
	if node.Len(n) < api.Fan {
		l, e := fast.Insert(at, n, upper.Low, to)
		p.runs(c, above, l, e, nil, pause)
	}
	above.Release()
}

// shifting says whether entries' stores are pending: a crash may keep some of them, and not the others.
func shifting(m *pmem.Mem) bool {
	return slices.ContainsFunc(m.Lines(), func(a api.Addr) bool { return (a%1024-64)%192 != 0 && m.Pending(a) > 1 })
}

// era lets so many clients go on, in turns, for so many steps, and some, while lines are evicted; then the power goes.
func (p *party) era(clients, steps int) {
	p.t.Helper()
	var next []func() (bool, bool)
	for c := range clients {
		n, stop := iter.Pull(p.goes(c))
		defer stop()
		next = append(next, n)
	}
	one, m := p.d.roll(clients), p.x.Mem()
	for range steps + 1000 {
		if steps--; steps < 0 && shifting(m) {
			break
		}
		if p.d.roll(4) == 0 {
			one = p.d.roll(clients)
		}
		next[one]()
		if lines := m.Lines(); len(lines) > 0 && p.d.roll(9) == 0 {
			m.Evict(lines[p.d.roll(len(lines))], 1+p.d.roll(3))
		}
	}
	p.crash()
}

// crash holds that behind it each key leads where it led, or, where a change was on its way, where it led ahead of it.
func (p *party) crash() {
	p.t.Helper()
	m := p.x.Mem()
	m.Crash(p.d.roll(9), p.d.roll(9), p.d.roll(9))
	left := p.sees(m.View())
	keys := slices.Concat(slices.Collect(maps.Keys(left)), slices.Collect(maps.Keys(p.now)))
	for _, key := range keys {
		was, on := p.was[key]
		if left[key] != p.now[key] && !(on && left[key] == was) {
			p.t.Fatalf("behind a crash the key %d leads to %d, not to %d (%d, %v)", key, left[key], p.now[key], was, on)
		}
	}
	x, e := site.New(m, p.slab, api.MaxClients)
	if e != api.OK {
		p.t.Fatal(e)
	}
	p.x, p.now, p.was = x, left, map[uint64]api.Addr{}
}

// P0.1, P0.3, P16.1 to P16.3: clients who write at once, in several eras: each hold that is done has its node alone, whole, and all of it has lasted; holds change nothing of what is seen; and behind each crash all is there.
func TestParty(t *testing.T) {
	mended, hopped, waited := 0, 0, 0
	for seed := range 60 {
		p := meet(t, seed)
		for range 25 {
			p.era(1+p.d.roll(6), 50+p.d.roll(900))
		}
		p.quiet()
		mended, hopped, waited = mended+p.mended, hopped+p.hopped, waited+p.waited
	}
	if mended < 100 || hopped < 100 || waited < 1000 {
		t.Error("too few that tell something:", mended, hopped, waited)
	}
}

// quiet holds that in the end each key is found where it leads.
func (p *party) quiet() {
	p.t.Helper()
	for key := uint64(0); key < 620; key += 10 {
		h := hold.New(p.x, 0, p.walks(0, key, 0, func() {}), key)
		ended(p.t, h, p.x.Mem(), 40000)
		p.owns(h, 0, key)
		_, n, _ := h.At()
		if i, ok := node.Find(n, key); ok != (p.now[key] != 0) || ok && n.Ptrs[i] != p.now[key] {
			p.t.Fatalf("the key %d leads to %d, and a hold has %v", key, p.now[key], n)
		}
		h.Release()
	}
	p.unchanged()
}

// P0.1, P16.3: clients who come for one node at the same time have it one behind the other, whoever is asked first, each time.
func TestTurns(t *testing.T) {
	for seed := range 200 {
		d := dice(seed)
		l, at := torn(t, 8, d.roll(9), d.roll(4))
		x := l.site()
		var some []*hold.Hold
		for c := range 5 {
			some = append(some, hold.New(x, c, at, uint64(d.roll(20))))
		}
		order := []int{}
		for len(order) < len(some) {
			c := d.roll(len(some))
			through, e := some[c].Step()
			if e != api.OK {
				t.Fatal(e)
			}
			if through && !slices.Contains(order, c) {
				l.owned(some[c], x, c, at)
				for other, h := range some {
					if _, _, e := h.At(); other != c && e != api.ErrState {
						t.Fatal("two have it:", c, other)
					}
				}
				for range d.roll(30) {
					if other := d.roll(len(some)); !slices.Contains(order, other) {
						some[other].Step()
					}
				}
				if !some[c].Release() {
					t.Fatal("Release")
				}
				order = append(order, c)
			}
		}
		if _, held := x.Locks().Holder(at); held {
			t.Fatal("somebody has the lock")
		}
		l.stand(x.Mem().View())
	}
}

// P0.1: what is stored under a hold, ahead of a crash that keeps nothing of what is pending, is stored where it lasts: a hold goes by no Next that a crash takes back.
func TestNextHasLasted(t *testing.T) {
	l, a, b := pair(t)
	for _, key := range []uint64{50, 70, math.MaxUint64} {
		x := l.site()
		h := hold.New(x, 0, a, key)
		ended(t, h, x.Mem(), 400)
		at, n, _ := h.At()
		puts, e := fast.Insert(at, n, key, 2240)
		if at != b || e != api.OK {
			t.Fatal(at, e)
		}
		r := run.New(x.Mem(), 0, puts...)
		for through := false; !through; {
			through, _ = r.Step()
		}
		x.Mem().Crash()
		again := hold.New(x, 0, a, key)
		h.Release()
		ended(t, again, x.Mem(), 400)
		_, n, _ = again.At()
		if _, ok := node.Find(n, key); !ok {
			t.Fatal("the key", key, "is lost")
		}
	}
}
