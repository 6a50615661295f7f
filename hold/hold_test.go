package hold_test

import (
	"math"
	"slices"
	"testing"

	"levee/api"
	"levee/fast"
	"levee/hold"
	"levee/node"
	"levee/pmem"
	"levee/site"
	"levee/snap"
)

// way is how a hold goes from a node of a level on: the nodes from which it goes on by Next, and the one that it comes to.
func (l *land) way(from int, level int, key uint64) ([]api.Addr, api.Addr) {
	var hopped []api.Addr
	to, _, _ := l.where(level, key)
	for _, s := range l.levels[level][from:] {
		if s == to {
			break
		}
		hopped = append(hopped, s.at)
	}
	return hopped, to.at
}

// whole does a hold in an arena where nobody stores, or has a lock, and holds all that it tells, and does, against what was laid; it is released then.
func whole(t *testing.T, l *land, x *site.Site, client, level, from int, key uint64) {
	t.Helper()
	m := x.Mem()
	hopped, at := l.way(from, level, key)
	lines, stats, used := m.Lines(), m.Stats(), x.Slab().Used()
	h := hold.New(x, client, l.levels[level][from].at, key)
	tells(t, h, 0, api.Node{}, api.ErrState, 0, false)
	if _, e := ended(t, h, m, 200*(1+len(hopped))+200); e != api.OK {
		t.Fatal("level", level, "key", key, e)
	}
	l.owned(h, x, client, at)
	stays(t, h, x, api.OK)
	lasting := hopped
	if l.mends(at) > 0 {
		lasting = append(lasting, at) // of the lines with entries those that were stored to
	}
	left := slices.DeleteFunc(lines, func(a api.Addr) bool { return slices.Contains(lasting, a) })
	now := slices.DeleteFunc(m.Lines(), func(a api.Addr) bool { return a == at+64 || a == at+128 })
	if left = slices.DeleteFunc(left, func(a api.Addr) bool { return a == at+64 || a == at+128 }); !slices.Equal(now, left) {
		t.Fatalf("level %d, key %d: %v are pending, not %v", level, key, now, left)
	}
	d := done(m, stats)
	if l.mends(at) == 0 && d.Stores > 0 || int(d.Fences) > len(hopped)+4*l.mends(at) || d.Fences != d.Flushes || int(d.Fences) < len(hopped) {
		t.Fatalf("level %d, key %d, %d hops, %d changes: %v", level, key, len(hopped), l.mends(at), d)
	}
	if !slices.Equal(used, x.Slab().Used()) {
		t.Fatal("a hold has changed the blocks")
	}
	if !h.Release() || h.Release() {
		t.Fatal("Release")
	}
	locks(t, x, client, 0)
	tells(t, h, 0, api.Node{}, api.ErrState, 0, false)
	stays(t, h, x, api.OK)
}

// The chapter's example.
func TestExample(t *testing.T) {
	l := bare(t, 2)
	at := l.block(3)
	n, e := node.Make(at, 0, 0, 0, 0, api.Entry{Key: 5, Ptr: 2112}, api.Entry{Key: 9, Ptr: 2176})
	if at != 1088 || e != api.OK {
		t.Fatal(at, e)
	}
	l.lay(at, n)
	l.root(at)
	for _, key := range []uint64{0, 5, 7, 10, math.MaxUint64} {
		x := l.site()
		was, stats := x.Mem().Copy(), x.Mem().Stats()
		h := hold.New(x, 1, at, key)
		if _, e := ended(t, h, x.Mem(), 400); e != api.OK {
			t.Fatal(e)
		}
		tells(t, h, at, n, api.OK, 0, false)
		locks(t, x, 1, 0, at)
		if d := done(x.Mem(), stats); !x.Mem().Same(was) || d.Stores+d.Flushes+d.Fences > 0 {
			t.Error("a hold of a node that is whole stores, or lets something last:", d)
		}
		if !h.Release() {
			t.Error("it had no lock")
		}
		tells(t, h, 0, api.Node{}, api.ErrState, 0, false)
		locks(t, x, 1, 0)
	}
}

// P16.1, P16.3: arenas of many kinds, whole ones and such as crashes leave; holds of each key next to a bound, from each node of each level on that is not beyond it.
func TestQuiet(t *testing.T) {
	var mended [3]int
	hopped := 0
	for seed := range 40 {
		l := grown(t, seed, seed%2 == 1)
		if seed%3 == 0 {
			l.lasts()
		}
		for i, key := range l.keys() {
			for level := range l.levels {
				to, at := l.way(0, level, key)
				for from := i % 3; from <= len(to); from += 1 + 2*from {
					whole(t, l, l.site(), i%api.MaxClients, level, from, key)
				}
				mended[l.mends(at)]++
				if len(to) > 1 {
					hopped++
				}
			}
		}
	}
	if slices.Min(mended[:]) < 100 || hopped < 100 {
		t.Error("too few that tell something:", mended, hopped)
	}
}

// P16.1, P16.3: so it is at all levels that there may be.
func TestTower(t *testing.T) {
	l := tower(t, true)
	for i, key := range l.keys() {
		if i%9 == 0 || key > 1<<31 {
			for level := range l.levels {
				whole(t, l, l.site(), i%api.MaxClients, level, 0, key)
			}
		}
	}
}

// P16.3: holds of one site, one behind the other: what was made whole stays so, and is not stored to anew.
func TestAgain(t *testing.T) {
	for seed := range 20 {
		l := grown(t, 100+seed, true)
		x := l.site()
		for level, chain := range l.levels {
			for _, s := range chain {
				h := hold.New(x, 3, s.at, s.low)
				ended(t, h, x.Mem(), 400)
				l.owned(h, x, 3, s.at)
				h.Release()
				l.nodes[s.at] = cut(seen(t, x.Mem().View(), s.at))
				stores := x.Mem().Stats().Stores
				whole(t, l, x, 5, level, 0, s.low)
				if x.Mem().Stats().Stores != stores {
					t.Fatal("what is whole was stored to")
				}
			}
		}
		l.stand(x.Mem().View())
	}
}

// torn is a leaf of so many entries, of which the one at a place is not valid (of a place beyond them none), and so many of the last ones are stale: Low of its Next is just that of the first of these. Entries have the keys 10, 20, and so on.
func torn(t *testing.T, entries, wrong, stale int) (*land, api.Addr) {
	t.Helper()
	l := bare(t, 3)
	at, next := l.block(3), l.block(3)
	g, n := []spot{{}}, api.Node{Count: 40, First: at, Next: next}
	ahead := n.First
	for p := range entries {
		n.Keys[p], n.Ptrs[p] = uint64(10+10*p), api.Addr(2112+64*p)
		if p == wrong {
			n.Ptrs[p] = ahead
		} else if p < entries-stale {
			g = append(g, spot{n.Ptrs[p], n.Keys[p]})
		}
		ahead = n.Ptrs[p]
	}
	for p := entries + 1; p < api.Fan; p++ {
		n.Keys[p], n.Ptrs[p] = uint64(p), api.Addr(p) // nobody looks there
	}
	l.lay(at, n)
	l.lay(next, api.Node{Low: uint64(10 + 10*(entries-stale)), Count: 2, First: next})
	l.children[at], l.children[next] = g, []spot{{}}
	l.levels = [][]spot{{{at, 0}, {next, uint64(10 + 10*(entries-stale))}}}
	l.root(at)
	l.lasts()
	return l, at
}

// everyTorn goes over torn leaves of every number of entries, with one that is not valid at every place, or without one, and every number of stale ones.
func everyTorn(t *testing.T, do func(l *land, at api.Addr)) {
	t.Helper()
	for entries := range api.Fan + 1 {
		for wrong := range entries + 1 {
			for stale := range entries + 1 {
				l, at := torn(t, entries, wrong, stale)
				do(l, at)
			}
		}
	}
}

// P16.1, P16.3: each leaf that a crash may have left is made whole, within so many steps, and that has lasted; no other node is stored to.
func TestTorn(t *testing.T) {
	most := 0
	everyTorn(t, func(l *land, at api.Addr) {
		x := l.site()
		h := hold.New(x, 7, at, 5)
		n, e := ended(t, h, x.Mem(), 200)
		if e != api.OK {
			t.Fatal(e)
		}
		most = max(most, n)
		l.owned(h, x, 7, at)
		if len(x.Mem().Lines()) > 0 {
			t.Fatal("pending:", x.Mem().Lines())
		}
		l.stand(x.Mem().Image())
		_, n2, _ := h.At()
		if p := node.Len(n2); p < api.Fan && n2.Ptrs[p] != 0 || node.Invalid(n2) >= 0 {
			t.Fatal(n2)
		}
	})
	if most < 100 {
		t.Error("the longest one has", most, "steps")
	}
}

// P16.3: the stores are those of Repair, and then of Cut, each group of a line flushed, and fenced, by the hold's client, ahead of the next one.
func TestStores(t *testing.T) {
	everyTorn(t, func(l *land, at api.Addr) {
		x, y := l.site(), l.site()
		h := hold.New(x, 4, at, 5)
		for through := false; !through; {
			stats := x.Mem().Stats()
			through, _ = h.Step()
			if d := done(x.Mem(), stats); d.Fences > 0 && len(x.Mem().Lines()) > 0 {
				t.Fatal("behind a fence something is pending:", x.Mem().Lines())
			}
			if len(x.Mem().Lines()) > 1 {
				t.Fatal("pending is more than a line:", x.Mem().Lines())
			}
		}
		n, high := l.nodes[at], l.nodes[l.nodes[at].Next].Low
		stores := 0
		change := func(puts []api.Put, e api.Errno) {
			if e != api.OK {
				t.Fatal(e)
			}
			for _, p := range puts {
				y.Mem().Store(p.At, p.Word)
			}
			stores += len(puts)
			n = seen(t, y.Mem().View(), at)
		}
		if node.Invalid(n) >= 0 {
			change(fast.Repair(at, n))
		}
		if len(node.Active(n, high, true)) < node.Len(n) {
			change(fast.Cut(at, n, high))
		}
		if !slices.Equal(x.Mem().View(), y.Mem().View()) || x.Mem().Stats().Stores != l.mem.Stats().Stores+uint64(stores) {
			t.Fatal("other stores than Repair's, and Cut's")
		}
	})
}

// pair is an arena of two leaves, of which the second one begins at the key 50; what is pending is the first one's Next, and a word of each other line.
func pair(t *testing.T) (*land, api.Addr, api.Addr) {
	t.Helper()
	l := bare(t, 2)
	a, b := l.block(3), l.block(3)
	l.lay(a, api.Node{Count: 4, First: a, Next: b, Keys: [8]uint64{10}, Ptrs: [8]api.Addr{2112}})
	l.lay(b, api.Node{Low: 50, Count: 2, First: b, Keys: [8]uint64{60}, Ptrs: [8]api.Addr{2176}})
	l.children[a], l.children[b] = []spot{{}, {2112, 10}}, []spot{{}, {2176, 60}}
	l.levels = [][]spot{{{a, 0}, {b, 50}}}
	l.root(a)
	l.store(a+16, 0)
	l.lasts()
	l.store(a+16, uint64(b))
	for _, at := range []api.Addr{a + 64, a + 128, b, b + 64, b + 128} {
		l.store(at+56, 0)
	}
	return l, a, b
}

// P16.1: the high bound's own key is beyond it, the one below is not; ahead of Next the first line is made to last, and no other one, and without a hop none is.
func TestBound(t *testing.T) {
	l, a, b := pair(t)
	for key, want := range map[uint64]api.Addr{0: a, 1: a, 49: a, 50: b, 51: b, math.MaxUint64: b} {
		x := l.site()
		m, stats, lines := x.Mem(), x.Mem().Stats(), x.Mem().Lines()
		h := hold.New(x, 0, a, key)
		ended(t, h, m, 400)
		l.owned(h, x, 0, want)
		d := done(m, stats)
		if want == a && (d.Flushes+d.Fences+d.Stores > 0 || !slices.Equal(m.Lines(), lines)) {
			t.Errorf("key %d: %v", key, d)
		}
		if want == b && (d.Flushes != 1 || d.Fences != 1 || d.Stores > 0 || m.Pending(a) != 0 || len(m.Lines()) != len(lines)-1) {
			t.Errorf("key %d: %v, pending are %v", key, d, m.Lines())
		}
	}
}

// P16.1: of a hold the first node is the one that is told, also the last one of its level.
func TestFrom(t *testing.T) {
	l, _, b := pair(t)
	for _, key := range []uint64{50, 60, math.MaxUint64} {
		x := l.site()
		h := hold.New(x, 0, b, key)
		ended(t, h, x.Mem(), 400)
		l.owned(h, x, 0, b)
		if x.Mem().Pending(l.levels[0][0].at) == 0 {
			t.Error("it was at the node ahead")
		}
	}
}

// P16.1: lines are flushed, and there is a fence, of the hold's own client: what another one has marked stays pending.
func TestClients(t *testing.T) {
	l, a, b := pair(t)
	l.store(b+72, 2176)
	l.store(b+88, 2176) // an entry that is not valid
	l.store(b+80, 61)
	for _, client := range []int{0, 1, 2, 31, 63} {
		for other := range api.System + 1 {
			x := l.site()
			m := x.Mem()
			m.Store(128, 7)
			m.Flush(other, 128)
			h := hold.New(x, client, a, 55)
			if _, e := ended(t, h, m, 600); e != api.OK {
				t.Fatal(client, e)
			}
			if m.Pending(a) != 0 || m.Pending(b) != 0 || m.Pending(b+64) != 0 {
				t.Fatalf("client %d: %v are pending", client, m.Lines())
			}
			if (m.Pending(128) == 0) != (client == other) {
				t.Fatalf("client %d lets last what the client %d marked", client, other)
			}
		}
	}
}

// P16.1: while another client has the lock, a step does nothing; the first one that tries behind that has it.
func TestWaits(t *testing.T) {
	l, a, b := pair(t)
	for _, key := range []uint64{20, 70} {
		at := map[uint64]api.Addr{20: a, 70: b}[key]
		x := l.site()
		first, second, third := hold.New(x, 0, a, key), hold.New(x, 1, a, key), hold.New(x, 2, at, key)
		ended(t, first, x.Mem(), 400)
		for range 300 {
			second.Step()
		}
		was, stats, table := x.Mem().Copy(), x.Mem().Stats(), x.Locks().Copy()
		locks(t, x, 1, at)
		for range 300 {
			if through, e := second.Step(); through || e != api.OK {
				t.Fatal(through, e)
			}
			tells(t, second, 0, api.Node{}, api.ErrState, 0, false)
		}
		if !x.Mem().Same(was) || x.Mem().Stats() != stats || !x.Locks().Same(table) {
			t.Fatal("a step of one that waits does something")
		}
		l.owned(first, x, 0, at)
		if !first.Release() {
			t.Fatal("Release")
		}
		locks(t, x, 1, at) // till it tries anew
		ended(t, third, x.Mem(), 400)
		l.owned(third, x, 2, at)
		second.Step()
		locks(t, x, 1, at)
		third.Release()
		ended(t, second, x.Mem(), 400)
		l.owned(second, x, 1, at)
	}
}

// P16.2: a hold that waits waits no more, once it is released, and does not try anew.
func TestReleaseOfOneThatWaits(t *testing.T) {
	l, a, _ := pair(t)
	x := l.site()
	first, second := hold.New(x, 0, a, 5), hold.New(x, 1, a, 5)
	ended(t, first, x.Mem(), 400)
	second.Step()
	locks(t, x, 1, a)
	if second.Release() {
		t.Error("it had the lock")
	}
	locks(t, x, 1, 0)
	l.owned(first, x, 0, a)
	first.Release()
	stays(t, second, x, api.OK)
	tells(t, second, 0, api.Node{}, api.ErrState, 0, false)
	locks(t, x, 1, 0)
}

// P16.2: a hold that is released behind so many steps has no lock, does nothing any more, and whoever comes next has the node as it is to be, and all of it has lasted.
func TestReleaseAnywhere(t *testing.T) {
	for seed, entries := range []int{8, 8, 7, 3} {
		l, at := torn(t, entries, []int{1, 3, 0, 2}[seed], seed)
		next := l.nodes[at].Next
		for _, key := range []uint64{5, 200} {
			most, _ := ended(t, hold.New(l.site(), 0, at, key), nil, 600)
			for steps := range most + 1 {
				x := l.site()
				h := hold.New(x, 0, at, key)
				for range steps {
					h.Step()
				}
				_, held := x.Locks().Holder(at)
				_, beyond := x.Locks().Holder(next)
				if h.Release() != (held || beyond) || h.Release() {
					t.Fatal("behind", steps, "steps: Release")
				}
				locks(t, x, 0, 0)
				tells(t, h, 0, api.Node{}, api.ErrState, 0, false)
				stays(t, h, x, api.OK)
				l.follows(x, at)
			}
		}
	}
}

// follows holds that a node that somebody released can be had, whole, that what is seen there has lasted, and that a crash behind any step of it changes nothing of what the node has.
func (l *land) follows(x *site.Site, at api.Addr) {
	l.t.Helper()
	h, m := hold.New(x, 1, at, 5), x.Mem()
	for through := false; !through; {
		var e api.Errno
		if through, e = h.Step(); e != api.OK {
			l.t.Fatal(e)
		}
		for keep := range 2 {
			crashed := m.Copy()
			crashed.Crash(keep, 1-keep)
			l.stand(crashed.View())
		}
	}
	_, n, _ := h.At()
	l.stand(m.View())
	if node.Len(n) != len(l.active(at)) || uncounted(n) != uncounted(seen(l.t, m.Image(), at)) {
		l.t.Fatalf("at %d is %v, and lasted has %v", at, n, seen(l.t, m.Image(), at))
	}
}

// P16.2: Release is of the hold's own lock: another one that the client has stays, also that of the same node by another hold.
func TestReleaseOfItsOwn(t *testing.T) {
	l, a, b := pair(t)
	x := l.site()
	x.Locks().Try(0, b)
	x.Locks().Try(0, 64)
	none := hold.New(x, 0, a, 5)
	h := hold.New(x, 0, a, 5)
	ended(t, h, x.Mem(), 400)
	locks(t, x, 0, 0, 64, a, b)
	if none.Release() {
		t.Error("one that had no step had a lock")
	}
	locks(t, x, 0, 0, 64, a, b)
	x.Locks().Try(1, 128)
	x.Locks().Try(0, 128)
	if none = hold.New(x, 0, a, 5); none.Release() {
		t.Error("one that had no step had a lock")
	}
	locks(t, x, 0, 128, 64, a, b) // it waits for another one, as it did
	x.Locks().Release(0, 128)
	if !h.Release() {
		t.Error("it had no lock")
	}
	locks(t, x, 0, 0, 64, b)
	again := hold.New(x, 0, a, 5)
	ended(t, again, x.Mem(), 400)
	if h.Release() {
		t.Error("it had a lock once more")
	}
	l.keeps(again, x, a)
	site.Drop(x, 0)
	if again.Release() {
		t.Error("a lock that was dropped was had")
	}
}

// keeps holds that a hold has a node, among whatever locks.
func (l *land) keeps(h *hold.Hold, x *site.Site, at api.Addr) {
	l.t.Helper()
	high, bound := l.bound(at)
	tells(l.t, h, at, cut(seen(l.t, x.Mem().View(), at)), api.OK, high, bound)
	if _, held := x.Locks().Holder(at); !held {
		l.t.Fatal("nobody has the lock of", at)
	}
}

// P16.2: Apply: the node that At tells is the one behind the stores; nothing else is changed by it, and by what is refused nothing at all.
func TestApply(t *testing.T) {
	everyTorn(t, func(l *land, at api.Addr) {
		x := l.site()
		h := hold.New(x, 4, at, 5)
		if e := h.Apply(api.Put{At: at + 24, Word: 1}); e != api.ErrState {
			t.Fatal(e)
		}
		ended(t, h, x.Mem(), 400)
		_, n, _ := h.At()
		high, bound := h.High()
		was, stats := x.Mem().Copy(), x.Mem().Stats()
		for k := range 24 {
			p := api.Put{At: at + api.Addr(8*k), Word: 7000 + uint64(k)}
			want, e := fast.Apply(at, n, p)
			if e != api.OK {
				want = n
			}
			if got := h.Apply(p); got != e {
				t.Fatalf("word %d: %d, not %d", k, got, e)
			}
			n = want
			tells(t, h, at, n, api.OK, high, bound)
		}
		for _, p := range []api.Put{{At: at - 8}, {At: at + 192}, {At: at}, {At: at + 41}, {At: 0}, {At: math.MaxUint64}} {
			if e := h.Apply(api.Put{At: at + 72, Word: 5}, p, api.Put{At: at + 24, Word: 5}); e != api.ErrArg {
				t.Fatal(p, e)
			}
			tells(t, h, at, n, api.OK, high, bound)
		}
		if e := h.Apply(); e != api.OK {
			t.Fatal(e)
		}
		tells(t, h, at, n, api.OK, high, bound)
		if !x.Mem().Same(was) || x.Mem().Stats() != stats {
			t.Fatal("Apply does something to the memory")
		}
		h.Release()
		for _, p := range []api.Put{{At: at + 24}, {At: at + 1}} {
			if e := h.Apply(p); e != api.ErrState {
				t.Fatal(e)
			}
		}
		if e := h.Apply(); e != api.ErrState {
			t.Fatal(e)
		}
	})
}

// P16.2: stores that are handed in are not kept, and what At tells is new each time.
func TestApplyKeepsNothing(t *testing.T) {
	l, a, _ := pair(t)
	x := l.site()
	h := hold.New(x, 0, a, 5)
	ended(t, h, x.Mem(), 400)
	_, n, _ := h.At()
	puts, e := fast.Insert(a, n, 20, 2240)
	if e != api.OK {
		t.Fatal(e)
	}
	want, _ := fast.Apply(a, n, puts...)
	if e := h.Apply(puts...); e != api.OK {
		t.Fatal(e)
	}
	for i := range puts {
		puts[i] = api.Put{At: a + 16, Word: 9}
	}
	tells(t, h, a, want, api.OK, 50, true)
	_, n, _ = h.At()
	n.Keys[0], n.Low = 77, 88
	tells(t, h, a, want, api.OK, 50, true)
}

// P16.1: New does nothing, and holds of one site know nothing of one another but by locks.
func TestNewDoesNothing(t *testing.T) {
	l := grown(t, 12, true)
	x := l.site()
	was, stats, locks := x.Mem().Copy(), x.Mem().Stats(), x.Locks().Copy()
	var some []*hold.Hold
	for c := range min(len(l.levels[0]), api.MaxClients) {
		some = append(some, hold.New(x, c, l.levels[0][c].at, l.levels[0][c].low))
	}
	if !x.Mem().Same(was) || x.Mem().Stats() != stats || !x.Locks().Same(locks) {
		t.Fatal("New does something")
	}
	for left := len(some); left > 0; {
		left = 0
		for _, h := range some {
			if through, e := h.Step(); e != api.OK {
				t.Fatal(e)
			} else if !through {
				left++
			}
		}
	}
	for c, h := range some {
		l.owned(h, x, c, l.levels[0][c].at)
	}
}

// P16.3: readers, wherever they are when a hold goes on, make of the node what it was.
func TestReaders(t *testing.T) {
	anew := 0
	for seed, entries := range []int{8, 8, 7, 5, 3} {
		l, at := torn(t, entries, []int{0, 5, 6, 9, 1}[seed], []int{2, 0, 3, 2, 1}[seed])
		high, bound := l.bound(at)
		for pause := range 45 {
			for slow := 1; slow < 9; slow++ {
				x := l.site()
				h, s := hold.New(x, 0, at, 5), snap.New(x.Mem(), at)
				for range pause {
					h.Step()
				}
				steps, through := 0, false
				for ; !through; steps++ {
					if steps%slow == 0 {
						h.Step()
					}
					var e api.Errno
					if through, e = s.Step(); e != api.OK || steps > 64*64 {
						t.Fatal(e, steps)
					}
				}
				n, _ := s.Node()
				if b, ok := s.High(); b != high || ok != bound || !slices.Equal(node.Active(n, b, ok), l.active(at)) || !node.May(n, b, ok) {
					t.Fatalf("a reader has %v, of %v", n, l.nodes[at])
				}
				if steps > 64 {
					anew++
				}
			}
		}
	}
	if anew == 0 {
		t.Error("no reader met a hold")
	}
}

// P0.1, P0.3, P16.3: the power goes behind every step, and whatever is kept all nodes are as they were; there is no lock, and the hold can be had anew.
func TestCrashes(t *testing.T) {
	everyTorn(t, func(l *land, at api.Addr) {
		x := l.site()
		h := hold.New(x, 0, at, 5)
		for through := false; !through; {
			through, _ = h.Step()
			l.crash(x.Mem(), at)
		}
	})
}

// crash lets the power go, keeping each number of stores of the line that is pending, and holds what is left against what was laid.
func (l *land) crash(m *pmem.Mem, at api.Addr) {
	l.t.Helper()
	lines := m.Lines()
	if len(lines) == 0 {
		return // nothing is lost
	}
	for keep := range m.Pending(lines[0]) + 1 {
		crashed := m.Copy()
		crashed.Crash(keep)
		l.stand(crashed.View())
		x, e := site.New(crashed, l.slab, 1)
		if e != api.OK {
			l.t.Fatal(e)
		}
		h := hold.New(x, 0, at, 5)
		if _, e := ended(l.t, h, crashed, 400); e != api.OK {
			l.t.Fatal(e)
		}
		_, n, _ := h.At()
		l.stand(crashed.View())
		if node.Len(n) != len(l.active(at)) || len(crashed.Lines()) > 0 {
			l.t.Fatalf("at %d is %v, pending are %v", at, n, crashed.Lines())
		}
	}
}
