package split_test

import (
	"math"
	"slices"
	"testing"

	"levee/api"
	"levee/fast"
	"levee/get"
	"levee/hold"
	"levee/node"
	"levee/pmem"
	"levee/run"
	"levee/site"
	"levee/snap"
	"levee/split"
	"levee/value"
	"levee/walk"
)

// halves are what a node becomes, by the chapter's words: the elder one, but for what stands behind its first pointer 0, and the new one.
func halves(n api.Node, to api.Addr) (api.Node, api.Node) {
	left := api.Node{Level: n.Level, Low: n.Low, Next: to, Count: n.Count + 4, First: n.First}
	right := api.Node{Level: n.Level, Low: n.Keys[4], Next: n.Next, First: to}
	for p := range 4 {
		left.Keys[p], left.Ptrs[p] = n.Keys[p], n.Ptrs[p]
		right.Keys[p], right.Ptrs[p] = n.Keys[4+p], n.Ptrs[4+p]
	}
	left.Keys[4] = n.Keys[4] // a snapshot reads it
	if n.Level > 0 {
		right.First, right.Keys, right.Ptrs = n.Ptrs[4], [8]uint64{}, [8]api.Addr{}
		for p := range 3 {
			right.Keys[p], right.Ptrs[p] = n.Keys[5+p], n.Ptrs[5+p]
		}
	}
	return left, right
}

// least is the block that the next split takes.
func least(t *testing.T, x *site.Site) api.Addr {
	t.Helper()
	a, e := x.Slab().Reserve(3)
	if e != api.OK {
		t.Fatal(e)
	}
	x.Slab().Release(a)
	return a
}

// became holds what is promised of a split that is done, of a node as it was: both halves, and that they, and that the new one's block is in use, have lasted; nothing else is changed.
func became(t *testing.T, l *land, x *site.Site, h *hold.Hold, at, to api.Addr, was []byte) {
	t.Helper()
	left, right := halves(l.nodes[at], to)
	view, image := x.Mem().View(), x.Mem().Image()
	for _, b := range [][]byte{view, image} {
		if n := cut(seen(t, b, at)); n != left {
			t.Fatalf("the elder one is %v, not %v", n, left)
		}
		if n := seen(t, b, to); n != right {
			t.Fatalf("the new one is %v, not %v", n, right)
		}
		for k := range 3 {
			if wordAt(t, b, to+40+api.Addr(8*k)) != 0 {
				t.Fatal("the words behind First are no noughts")
			}
		}
	}
	if _, n, e := h.At(); cut(n) != left || e != api.OK {
		t.Fatalf("the hold has %v, %d, not %v", n, e, left)
	}
	for _, n := range []api.Node{left, right} {
		high, has := l.bound(at)
		if n.Next == to {
			high, has = right.Low, true
		}
		if !node.May(n, high, has) || node.Invalid(n) >= 0 || len(node.Active(n, high, has)) != node.Len(n) {
			t.Fatalf("%v may not be, by %d, %v", n, high, has)
		}
	}
	apart(t, view, was, at, to)
	if x.Slab().Is(to) != 2 {
		t.Fatal("the new one's block is not in use")
	}
	blocks := siteOf(t, x.Mem(), 1).Slab()
	if blocks.Is(to) != 2 || !slices.Equal(blocks.Used(), x.Slab().Used()) {
		t.Fatal("blocks in use that have not lasted")
	}
}

// apart holds that some bytes are as they were, but for two nodes, and for the header of the second one's slab.
func apart(t *testing.T, view, was []byte, nodes ...api.Addr) {
	t.Helper()
	header := nodes[1] / api.SlabSize * api.SlabSize
	for a := api.Addr(0); int(a) < len(view); a += 8 {
		if a >= nodes[0] && a < nodes[0]+192 || a >= nodes[1] && a < nodes[1]+192 || a == header || a == header+8 {
			continue
		}
		if wordAt(t, view, a) != wordAt(t, was, a) {
			t.Fatalf("the word at %d is %d, and was %d", a, wordAt(t, view, a), wordAt(t, was, a))
		}
	}
	h := wordAt(t, was, header+8) | 1<<((nodes[1]-header-64)/192)
	if wordAt(t, view, header) != 3 || wordAt(t, view, header+8) != h {
		t.Fatal("the header's words are", wordAt(t, view, header), wordAt(t, view, header+8))
	}
}

// whole does a split of a node that a client has, and holds all that it tells, and does.
func whole(t *testing.T, l *land, x *site.Site, client int, h *hold.Hold) *split.Split {
	t.Helper()
	at, n, _ := h.At()
	if n != l.nodes[at] {
		t.Fatal("the hold has another node:", n, l.nodes[at])
	}
	to, was, locks, held := least(t, x), x.Mem().View(), x.Locks().Copy(), x.Locks().Held(client)
	s := split.New(x, client, h)
	if _, e := ended(t, s, x.Mem()); e != api.OK {
		t.Fatal(e)
	}
	made(t, s, n.Keys[4], to, true)
	became(t, l, x, h, at, to, was)
	if !x.Locks().Same(locks) || !slices.Equal(x.Locks().Held(client), held) {
		t.Fatal("a split does something to locks")
	}
	stays(t, s, x, h, api.OK)
	return s
}

// The chapter's example.
func TestExample(t *testing.T) {
	l, at := lone(t, 0, 1, 0, 0, 1, 2, 3, 4, 5, 6, 7, 8)
	x := l.site()
	h := owner(t, x, 0, spot{at, 0})
	s := split.New(x, 0, h)
	n, e := ended(t, s, x.Mem())
	if e != api.OK {
		t.Fatal(e)
	}
	low, to, ok := s.Made()
	if low != 5 || !ok || x.Slab().Is(to) != 2 {
		t.Error("Made:", low, to, ok)
	}
	var keys [2][]uint64
	for i, a := range []api.Addr{at, to} {
		for _, e := range node.Valid(seen(t, x.Mem().Image(), a)) {
			keys[i] = append(keys[i], e.Key)
		}
	}
	if !slices.Equal(keys[0], []uint64{1, 2, 3, 4}) || !slices.Equal(keys[1], []uint64{5, 6, 7, 8}) || seen(t, x.Mem().Image(), to).Low != 5 {
		t.Error(keys)
	}
	if n != 48 {
		t.Error(n, "steps") // 24 stores of 3 lines, 4 of a turn, 3 of a line, 3 of 3
	}
	sound(t, x.Mem().Image())
}

// P17.1, P17.2: a node of each level, with and without a Next, with the outermost keys, Lows and Counts, becomes its halves, and nothing else is changed.
func TestHalves(t *testing.T) {
	most := uint64(math.MaxUint64)
	rows := [][]uint64{
		{1, 2, 3, 4, 5, 6, 7, 8},
		{1, 10, 100, 1000, 1 << 20, 1 << 40, 1 << 60, 1 << 63},
		{most - 7, most - 6, most - 5, most - 4, most - 3, most - 2, most - 1, most},
		{1, 2, 3, 4, most - 3, most - 2, most - 1, most},
	}
	for level := range api.MaxLevel + 1 {
		for i, keys := range rows {
			for _, nodes := range []int{1, 3} {
				if nodes > 1 && keys[7] == most {
					continue // nothing is above these
				}
				for j, count := range []uint64{0, 1, 6, most - 4, most - 3, most - 1, most} {
					low := keys[0] - 1
					if level == 0 {
						low += uint64(j % 2)
					}
					l, at := lone(t, level, nodes, low, count, keys...)
					client := (7*i + 9*j + level) % api.MaxClients
					x := l.site()
					whole(t, l, x, client, owner(t, x, client, spot{at, low}))
				}
			}
		}
	}
	l, at := lone(t, 0, 2, 0, 3, 0, 1, 2, 3, 4, 5, 6, 7)
	x := l.site()
	whole(t, l, x, 0, owner(t, x, 0, spot{at, 0}))
}

// P17.1, P17.2: each full node of arenas of many kinds, one behind the other.
func TestArenas(t *testing.T) {
	var counts [3]int
	for seed := range 100 {
		l := grown(t, seed, seed%2 == 1)
		sound(t, l.mem.View())
		for level := range l.levels {
			for i, s := range l.full(level) {
				x := l.site()
				h := owner(t, x, i%api.MaxClients, s)
				whole(t, l, x, i%api.MaxClients, h)
				if !h.Release() {
					t.Fatal("the hold had no lock")
				}
				counts[min(level, 2)]++
			}
		}
	}
	if slices.Min(counts[:]) < 20 {
		t.Error("too few that tell something:", counts)
	}
}

// P17.2: all full nodes of an arena are split in one site, and then those that were made are there, also for holds, walks and gets; each level has just the entries that it had.
func TestAllOfThem(t *testing.T) {
	for seed := range 15 {
		l := grown(t, 100+seed, seed%2 == 0)
		keys, x := l.keys(), l.site()
		were := entries(t, l.mem.View(), len(l.levels), keys)
		used := len(x.Slab().Used())
		for level := range l.levels {
			for i, s := range l.full(level) {
				h := owner(t, x, i%api.MaxClients, s)
				whole(t, l, x, i%api.MaxClients, h)
				h.Release()
				used++
			}
		}
		found := sound(t, x.Mem().View())
		if len(found.leaks()) > 0 || len(x.Slab().Used()) != used {
			t.Fatal("leaks:", found.leaks())
		}
		if !slices.Equal(entries(t, x.Mem().View(), len(l.levels), keys), were) {
			t.Fatal("a key leads to somewhere else")
		}
		for i, key := range keys {
			for level := range l.levels {
				w := walk.New(x, 3, key, level)
				if _, _, e := site.Whole(x.Mem(), w.Step, 20000); e != api.OK {
					t.Fatal(e)
				}
				at, n, _ := w.At()
				if entry(n, key) != were[level*len(keys)+i] {
					t.Fatal("a walk comes to", n, "for", key)
				}
				h := hold.New(x, 3, at, key)
				stores := x.Mem().Stats().Stores
				if _, _, e := site.Whole(x.Mem(), h.Step, 400); e != api.OK {
					t.Fatal(e)
				}
				if _, is := l.nodes[at]; !is && x.Mem().Stats().Stores != stores {
					t.Fatal("a new node is not whole")
				}
				h.Release()
			}
		}
	}
}

// P17.1: New does nothing, and asks for the hold as it is at the first step.
func TestNewDoesNothing(t *testing.T) {
	l, at := lone(t, 0, 2, 0, 2, 1, 2, 3, 4, 5, 6, 7, 9)
	x := l.site()
	h := hold.New(x, 1, at, 5)
	was, stats, locks, room := x.Mem().Copy(), x.Mem().Stats(), x.Locks().Copy(), x.Slab().Room(3)
	some := []*split.Split{split.New(x, 1, h), split.New(x, 1, h)}
	for _, s := range some {
		made(t, s, 0, 0, false)
	}
	if !x.Mem().Same(was) || x.Mem().Stats() != stats || !x.Locks().Same(locks) || x.Slab().Room(3) != room {
		t.Fatal("New does something")
	}
	site.Whole(x.Mem(), h.Step, 400)
	_, n, _ := h.At()
	swap, e := fast.Swap(at, n, 9, l.block(1))
	if e != api.OK {
		t.Fatal(e)
	}
	site.Whole(x.Mem(), run.New(x.Mem(), 1, swap...).Step, 100)
	h.Apply(swap...)
	_, l.nodes[at], _ = h.At()
	to, view := least(t, x), x.Mem().View()
	if _, e := ended(t, some[1], x.Mem()); e != api.OK {
		t.Fatal(e)
	}
	became(t, l, x, h, at, to, view)
	if through, e := some[0].Step(); !through || e != api.ErrState {
		t.Error("a node that was split is split once more:", through, e)
	}
}

// P17.1: lines are flushed, and there are fences, of the split's own client, whoever has the hold: what another one has marked stays pending.
func TestClients(t *testing.T) {
	l, at := lone(t, 0, 1, 0, 2, 1, 2, 3, 4, 5, 6, 7, 9)
	for _, client := range []int{0, 1, 31, 63, api.System} {
		for other := range api.System + 1 {
			x := l.site()
			m := x.Mem()
			h := owner(t, x, 5, spot{at, 0})
			m.Store(192, 7)
			m.Flush(other, 192)
			s := split.New(x, client, h)
			if _, e := ended(t, s, m); e != api.OK {
				t.Fatal(client, e)
			}
			if (m.Pending(192) == 0) != (client == other) || len(m.Lines()) > 1 {
				t.Fatalf("client %d lets last what the client %d marked", client, other)
			}
		}
	}
}

// P17.2: nothing is pending behind it of what it has changed, whatever was pending in the lines ahead of it; and what stood in the new block means nothing.
func TestDirty(t *testing.T) {
	for seed := range 40 {
		d := dice(seed)
		l, at := lone(t, seed%3, 2, 0, 2, 1, 2, 3, 4, 5, 6, 7, 9)
		x := l.site()
		to := least(t, x)
		for range d.roll(60) {
			x.Mem().Store(to+api.Addr(8*d.roll(24)), uint64(d.roll(999)))
			x.Mem().Evict(to+api.Addr(64*d.roll(3)), d.roll(2))
		}
		x.Mem().Store(to/1024*1024, 3)
		h := owner(t, x, 5, spot{at, 0})
		whole(t, l, x, 5, h)
		if len(x.Mem().Lines()) > 0 {
			t.Fatal("pending:", x.Mem().Lines())
		}
	}
}

// kept goes over what a crash may leave, of a memory in which at most some stores of some lines are pending.
func kept(m *pmem.Mem, do func(image []byte)) {
	lines := m.Lines()
	keep := make([]int, max(1, len(lines)))
	for {
		crashed := m.Copy()
		crashed.Crash(keep...)
		do(crashed.Image())
		i := 0
		for ; i < len(lines); i++ {
			if keep[i]++; keep[i] <= m.Pending(lines[i]) {
				break
			}
			keep[i] = 0
		}
		if i >= len(lines) {
			return
		}
	}
}

// P0.1, P0.3, P17.2: behind each step, in what is seen, and in what a crash leaves, whatever is kept, each key is found, at each level, where it was; the image may be, what is reached is in use, and at most the new block is not reached.
func TestAnyMoment(t *testing.T) {
	images, leaked := [2]int{}, 0
	for seed := range 14 {
		l := grown(t, 200+seed, seed%2 == 0)
		keys := l.keys()
		were := entries(t, l.mem.View(), len(l.levels), keys)
		for level := range l.levels {
			list := l.full(level)
			for _, s := range list[:min(1, len(list))] {
				x := l.site()
				h := owner(t, x, 5, s)
				to := least(t, x)
				some := split.New(x, 5, h)
				look := func(image []byte) {
					images[min(level, 1)]++
					found := sound(t, image)
					if leaks := found.leaks(); len(leaks) > 1 || len(leaks) == 1 && leaks[0] != to {
						t.Fatal("leaks:", leaks)
					} else if len(leaks) == 1 {
						leaked++
					}
					if !slices.Equal(entries(t, image, len(l.levels), keys), were) {
						t.Fatal("a key leads to somewhere else")
					}
				}
				for through := false; !through; {
					if through, _ = some.Step(); len(x.Mem().Lines()) > 1 {
						t.Fatal("pending is more than a line:", x.Mem().Lines())
					}
					look(x.Mem().View())
					kept(x.Mem(), look)
				}
			}
		}
	}
	if slices.Min(images[:]) < 1000 || leaked < 200 {
		t.Error("too few that tell something:", images, leaked)
	}
}

// P0.1, P0.3, P17.2: what a crash leaves of a split, whatever was kept, can be gone on with: the node is held, and split, if it has its entries still; all is where it was.
func TestCrashes(t *testing.T) {
	halfway := 0
	for seed := range 8 {
		l := grown(t, 300+seed, seed%2 == 0)
		keys := l.keys()
		were := entries(t, l.mem.View(), len(l.levels), keys)
		for level := range l.levels {
			list := l.full(level)
			for _, s := range list[:min(1, len(list))] {
				x := l.site()
				some := split.New(x, 5, owner(t, x, 5, s))
				for through := false; !through; {
					through, _ = some.Step()
					kept(x.Mem(), func(image []byte) {
						m, _ := pmem.Of(image)
						y := siteOf(t, m, 2)
						h := owner(t, y, 1, s)
						_, n, _ := h.At()
						if node.Len(n) == api.Fan {
							if _, e := ended(t, split.New(y, 1, h), m); e != api.OK {
								t.Fatal(e)
							}
						} else {
							halfway++
						}
						if _, n, _ := h.At(); node.Len(n) != 4 || len(m.Lines()) > 0 {
							t.Fatal("pending, or another node:", m.Lines(), n)
						}
						sound(t, m.Image())
						if !slices.Equal(entries(t, m.Image(), len(l.levels), keys), were) {
							t.Fatal("a key leads to somewhere else")
						}
					})
				}
			}
		}
	}
	if halfway < 100 {
		t.Error("too few that tell something:", halfway)
	}
}

// P17.2: readers, wherever they are when a split goes on, make of the node, or of both, what it was.
func TestReaders(t *testing.T) {
	beyond, anew := 0, 0
	l, at := lone(t, 0, 2, 0, 2, 10, 20, 30, 40, 50, 60, 70, 80)
	for pause := 0; pause < 50; pause++ {
		for slow := 1; slow < 7; slow++ {
			for _, key := range []uint64{5, 10, 40, 45, 50, 55, 80, 90, 180, 181} {
				x := l.site()
				s, w := split.New(x, 5, owner(t, x, 5, spot{at, 0})), walk.New(x, 6, key, 0)
				for range pause {
					s.Step()
				}
				steps := 0
				for through := false; !through; steps++ {
					if steps%slow == 0 {
						s.Step()
					}
					var e api.Errno
					if through, e = w.Step(); e != api.OK || steps > 2000 {
						t.Fatal(e, steps)
					}
				}
				a, n, _ := w.At()
				high, has := w.High()
				if entry(n, key) != entries(t, l.mem.View(), 1, []uint64{key})[0] || key < n.Low || has && key >= high {
					t.Fatalf("a walk for %d comes to %v", key, n)
				}
				if _, _, ok := w.Hop(); ok && a != l.nodes[at].Next {
					beyond++
				}
				if steps > 70 {
					anew++
				}
			}
		}
	}
	if beyond < 100 || anew < 100 {
		t.Error("too few that tell something:", beyond, anew)
	}
}

// P17.2: snapshots of a node that is split meanwhile are of the node at one moment: its entries that are not stale, and those of the new one, are all that there were.
func TestSnaps(t *testing.T) {
	for _, level := range []int{0, 1, 7} {
		l, at := lone(t, level, 2, 0, 2, 10, 20, 30, 40, 50, 60, 70, 80)
		var moments []api.Node
		x := l.site()
		s := split.New(x, 5, owner(t, x, 5, spot{at, 0}))
		for through := false; !through; through, _ = s.Step() {
			moments = append(moments, cut(seen(t, x.Mem().View(), at)))
		}
		moments = append(moments, cut(seen(t, x.Mem().View(), at)))
		for pause := range 50 {
			for slow := 1; slow < 9; slow++ {
				x := l.site()
				s, r := split.New(x, 5, owner(t, x, 5, spot{at, 0})), snap.New(x.Mem(), at)
				for range pause {
					s.Step()
				}
				steps := 0
				for through := false; !through; steps++ {
					if steps%slow == 0 {
						s.Step()
					}
					var e api.Errno
					if through, e = r.Step(); e != api.OK || steps > 2000 {
						t.Fatal(e, steps)
					}
				}
				if n, _ := r.Node(); !slices.Contains(moments, n) {
					t.Fatalf("a snapshot of no moment: %v", n)
				}
			}
		}
	}
}

// P0.1, P17.2: gets that go on beside a split are answered what the leaf had.
func TestGets(t *testing.T) {
	l, at := lone(t, 0, 1, 0, 2, 10, 20, 30, 40, 50, 60, 70, 80)
	values := map[uint64]string{}
	for p, key := range l.nodes[at].Keys {
		values[key] = "the value " + string(rune('a'+p))
		puts, e := value.Puts(l.nodes[at].Ptrs[p], values[key])
		if e != api.OK {
			t.Fatal(e)
		}
		for _, p := range puts {
			l.store(p.At, p.Word)
		}
	}
	l.lasts()
	for pause := 0; pause < 50; pause += 3 {
		for slow := 1; slow < 7; slow++ {
			for key := uint64(5); key < 90; key += 5 {
				x := l.site()
				s, g := split.New(x, 5, owner(t, x, 5, spot{at, 0})), get.New(x, 6, key)
				for range pause {
					s.Step()
				}
				for steps, through := 0, false; !through; steps++ {
					if steps%slow == 0 {
						s.Step()
					}
					var e api.Errno
					if through, e = g.Step(); e != api.OK || steps > 2000 {
						t.Fatal(e, steps)
					}
				}
				v, there := values[key]
				want := api.Response{Value: v}
				if !there {
					want.Code = api.ErrNone
				}
				if r := g.Response(); r.Code != want.Code || r.Value != want.Value {
					t.Fatal("a get of", key, "is answered", r)
				}
			}
		}
	}
}
