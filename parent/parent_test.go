package parent_test

import (
	"maps"
	"slices"
	"testing"

	"levee/api"
	"levee/get"
	"levee/node"
	"levee/parent"
	"levee/pmem"
	"levee/site"
	"levee/super"
	"levee/value"
	"levee/walk"
)

// least is the block of a node that is taken next.
func least(t *testing.T, x *site.Site) api.Addr {
	t.Helper()
	a, e := x.Slab().Reserve(3)
	if e != api.OK {
		t.Fatal(e)
	}
	x.Slab().Release(a)
	return a
}

// fresh are a level's nodes that were not there.
func fresh(was, now []spot) []spot {
	return slices.DeleteFunc(slices.Clone(now), func(s spot) bool { return slices.Contains(was, s) })
}

// became holds what is promised of a parent that is done, of an arena as it was: what is owed is there, if nothing was left; nothing else is changed, but for nodes that were made, to which all leads that is to.
func became(t *testing.T, x *site.Site, was []byte, d debt, left bool, keys []uint64) *looked {
	t.Helper()
	view := x.Mem().View()
	if lines := x.Mem().Lines(); len(lines) > 0 {
		t.Fatal("pending:", lines)
	}
	elder, now := sound(t, was), sound(t, view)
	if len(now.leaks()) != len(elder.leaks()) {
		t.Fatal("leaks:", now.leaks(), elder.leaks())
	}
	if !slices.Equal(entries(t, view, 1, keys), entries(t, was, 1, keys)) {
		t.Fatal("a key leads to somewhere else")
	}
	links := now.links()
	for k := range elder.links() {
		if !links[k] {
			t.Fatal("lost:", k)
		}
		delete(links, k)
	}
	made := 0
	for level := range now.levels {
		old, all := elder.of(level), now.of(level)
		list := fresh(old, all)
		made += len(list)
		if level < d.level && len(list) > 0 || len(list)+len(old) != len(all) {
			t.Fatalf("of the level %d are %v, and were %v", level, all, old)
		}
		if len(old) == 0 { // a root
			delete(links, link{level, 0, elder.of(level - 1)[0].at})
			list = list[1:]
		}
		for _, s := range list {
			k := link{level + 1, s.low, s.at}
			if !left && level < api.MaxLevel && !links[k] {
				t.Fatal("what a split owes is not there:", k)
			}
			delete(links, k)
		}
	}
	k := link{d.level, d.low, d.child}
	if !left && !links[k] && !elder.links()[k] {
		t.Fatal("what is owed is not there:", d)
	}
	if delete(links, k); len(links) > 0 {
		t.Fatal("more than what is owed:", links)
	}
	if made != len(now.blocks.Used())-len(elder.blocks.Used()) {
		t.Fatal("blocks in use:", now.blocks.Used(), elder.blocks.Used())
	}
	apart(t, view, was, now, d.level)
	return now
}

// apart holds that some bytes are as they were, but for nodes from a level on up, for headers of slabs of nodes, and the root.
func apart(t *testing.T, view, was []byte, now *looked, level int) {
	t.Helper()
	may := map[api.Addr]bool{super.RootAt(): true}
	for ; level < len(now.levels); level++ {
		for _, s := range now.of(level) {
			for k := range 24 {
				may[s.at+api.Addr(8*k)] = true
			}
		}
	}
	for slab := 1; slab <= now.blocks.Slabs(); slab++ {
		header := api.Addr(1024 * slab)
		if now.blocks.Class(slab) == 3 {
			may[header], may[header+8] = true, true
		}
	}
	for a := api.Addr(0); int(a) < len(view); a += 8 {
		if !may[a] && wordAt(t, view, a) != wordAt(t, was, a) {
			t.Fatalf("the word at %d is %d, and was %d", a, wordAt(t, view, a), wordAt(t, was, a))
		}
	}
}

// whole pays what is owed, and holds all that is promised of it.
func whole(t *testing.T, x *site.Site, client int, d debt, keys []uint64) (*parent.Parent, *looked) {
	t.Helper()
	was, locks := x.Mem().View(), x.Locks().Copy()
	p := d.of(x, client)
	if _, e := ended(t, p, x); e != api.OK {
		t.Fatal(e)
	}
	if !x.Locks().Same(locks) {
		t.Fatal("it has a lock, or waits for one")
	}
	now := became(t, x, was, d, p.Left(), keys)
	stays(t, p, x, api.OK)
	return p, now
}

// owed is an arena of so many leaves of which the first one is the root.
func owed(t *testing.T, leaves int) *land {
	t.Helper()
	d := dice(leaves)
	l := bare(t, 8)
	groups := l.leaves(&d, leaves)
	l.chain(&d, 0, groups, false)
	l.root(l.levels[0][0].at)
	l.lasts()
	return l
}

// The chapter's example.
func TestExample(t *testing.T) {
	l := owed(t, 2)
	x, leaves := l.site(), l.levels[0]
	to := least(t, x)
	p := parent.New(x, 0, 1, leaves[1].low, leaves[1].at)
	n, e := ended(t, p, x)
	if e != api.OK || p.Left() {
		t.Fatal(e, p.Left())
	}
	image := x.Mem().Image()
	if root := wordAt(t, image, super.RootAt()); root != uint64(to) {
		t.Fatal("the root is at", root)
	}
	want := api.Node{Level: 1, First: leaves[0].at, Keys: [8]uint64{leaves[1].low}, Ptrs: [8]api.Addr{leaves[1].at}}
	if root := seen(t, image, to); root != want {
		t.Errorf("the root is %v, not %v", root, want)
	}
	if x.Slab().Is(to) != 2 || len(sound(t, image).leaks()) > 0 {
		t.Error("blocks:", x.Slab().Used())
	}
	if n > 200 {
		t.Error(n, "steps")
	}
}

// P18.1, P18.2: all that is owed in arenas of many kinds, each of it alone.
func TestArenas(t *testing.T) {
	var counts [4]int // without a node that is made, with a split, with a new root, with both
	for seed := range 120 {
		l := grown(t, seed, seed%2 == 1)
		keys := l.keys()
		for i, d := range l.debts() {
			x := l.site()
			p, now := whole(t, x, i%api.MaxClients, d, keys)
			if p.Left() {
				t.Fatal("something is left")
			}
			kind := 0
			if len(now.levels) > len(l.levels) {
				kind = 2
			}
			if len(fresh(l.levels[min(d.level, len(l.levels)-1)], now.of(d.level))) > kind/2 {
				kind++
			}
			counts[kind]++
		}
	}
	if counts[0] < 200 || counts[1] < 30 || counts[2] < 100 {
		t.Error("too few that tell something:", counts)
	}
}

// P18.2: all that is owed in an arena is paid in one site, in an order that chance has: behind it nothing is owed any more, and no walk to any level goes by Next.
func TestAllThatIsOwed(t *testing.T) {
	grew := 0
	for seed := range 60 {
		l := grown(t, 200+seed, seed%2 == 0)
		d, x, keys, list := dice(seed), l.site(), l.keys(), l.debts()
		for len(list) > 0 {
			i := d.roll(len(list))
			p, _ := whole(t, x, d.roll(api.MaxClients), list[i], keys)
			if p.Left() {
				t.Fatal("something is left")
			}
			list = slices.Delete(list, i, i+1)
		}
		now := sound(t, x.Mem().View())
		grew += len(now.levels) - len(l.levels)
		if len(now.levels[0]) > 1 {
			t.Fatal("the root has a Next")
		}
		for _, key := range keys {
			for level := range now.levels {
				w := walk.New(x, 3, key, level)
				if _, _, e := site.Whole(x.Mem(), w.Step, 20000); e != api.OK {
					t.Fatal(e)
				}
				if low, to, was := w.Hop(); was {
					t.Fatal("a way by Next, to", low, to)
				}
			}
		}
	}
	if grew < 20 {
		t.Error("too few that tell something:", grew)
	}
}

// P18.1, P18.2: what is there already, as an entry, or as the node's own Low, is left as it is: nothing is stored, but what a hold mends.
func TestPaid(t *testing.T) {
	own := 0
	for seed := range 40 {
		l := grown(t, 300+seed, seed%2 == 0)
		keys := l.keys()
		for k := range sound(t, l.mem.View()).links() {
			x, d := l.site(), debt{k.level, k.low, k.child}
			stores := x.Mem().Stats().Stores
			p, now := whole(t, x, 5, d, keys)
			if len(now.blocks.Used()) != len(l.slab.Used()) || p.Left() {
				t.Fatal("something is made, or left")
			}
			if seed%2 == 1 && x.Mem().Stats().Stores != stores {
				t.Fatal("something is stored")
			}
			for _, s := range now.of(k.level) {
				if s.low == k.low {
					own++
				}
			}
		}
	}
	if own < 50 {
		t.Error("too few that tell something:", own)
	}
}

// P18.1, P18.2: a root of each level comes to be above one, and one of each level that has all its entries becomes two, below another one, but of the highest level, where that is left.
func TestLevels(t *testing.T) {
	for level := 1; level <= api.MaxLevel; level++ {
		for entries := range api.Fan + 1 {
			l := columns(t, level, entries)
			d := l.debts()[0]
			p, now := whole(t, l.site(), level, d, l.keys())
			levels := level + 1
			if entries == api.Fan && level < api.MaxLevel {
				levels++
			}
			if left := entries == api.Fan && level == api.MaxLevel; p.Left() != left || len(now.levels) != levels {
				t.Fatal(level, entries, p.Left(), len(now.levels))
			}
			if !now.links()[d] {
				t.Fatal("what is owed is not there:", d)
			}
		}
		if level == api.MaxLevel {
			continue
		}
		l := columns(t, level, 0)
		root, x := l.levels[level][0], l.site()
		next := l.block(3)
		n := api.Node{Level: level, Low: 100, First: l.levels[level-1][1].at}
		l.lay(next, n)
		n = l.nodes[root.at]
		n.Next = next
		l.lay(root.at, n)
		l.lasts()
		x = l.site()
		p, now := whole(t, x, level, debt{level + 1, 100, next}, l.keys())
		if p.Left() || len(now.levels) != level+2 || now.levels[0][0].low != 0 {
			t.Fatal(level, p.Left(), len(now.levels))
		}
	}
}

// P18.1, P18.2: one by one all levels' nodes become two, and a root comes above them; also where fewer blocks are free than that takes: as many are made as there are blocks, and the rest is left.
func TestCascades(t *testing.T) {
	for levels := 1; levels < 8; levels++ {
		for room := range levels + 3 {
			l := cascade(t, levels, 0)
			l.fills(room)
			d := l.debts()[0]
			x := l.site()
			p, now := whole(t, x, levels, d, l.keys())
			made := min(room, levels+1)
			if p.Left() != (made <= levels) || x.Slab().Room(3) != room-made {
				t.Fatal(levels, room, p.Left(), x.Slab().Room(3))
			}
			if now.links()[d] != (room > 0) {
				t.Fatal("what is owed:", room, d)
			}
			for level := 1; level <= levels; level++ {
				if n := len(now.of(level)) - len(l.levels[level]); n != 0 && level > room || n != 1 && level <= room {
					t.Fatal(levels, room, "of the level", level, "more:", n)
				}
			}
		}
	}
}

// P18.1, P18.2: where no block is free nothing is stored, and it is left; once one is free, it can be done, and what was left stays so.
func TestFull(t *testing.T) {
	for _, l := range []*land{owed(t, 2), cascade(t, 1, 0), columns(t, 3, 8)} {
		l.block(1)
		l.block(2)
		l.fills(0)
		x, d := l.site(), l.debts()[0]
		stats := x.Mem().Stats()
		late := d.of(x, 5)
		p, _ := whole(t, x, 5, d, l.keys())
		if s := done(x.Mem(), stats); !p.Left() || s.Stores > 0 {
			t.Fatal("left:", p.Left(), s)
		}
		used := x.Slab().Used()
		turn, e := x.Slab().Free(x.Mem(), 5, used[len(used)-1])
		if e != api.OK {
			t.Fatal(e)
		}
		if p, _ := whole(t, l.site(), 5, d, l.keys()); !p.Left() { // it is not free as yet
			t.Fatal("something is done")
		}
		site.Whole(x.Mem(), turn.Step, 20)
		if _, e := ended(t, late, x); e != api.OK || !sound(t, x.Mem().View()).links()[d] {
			t.Fatal("what is owed is not there", e)
		}
		if !p.Left() {
			t.Fatal("it is not left any more")
		}
	}
}

// P18.1: New does nothing, and the arena is as it is at the first step.
func TestNewDoesNothing(t *testing.T) {
	l := owed(t, 3)
	x := l.site()
	was, stats, locks, room := x.Mem().Copy(), x.Mem().Stats(), x.Locks().Copy(), x.Slab().Room(3)
	var some []*parent.Parent
	for _, d := range l.debts() {
		some = append(some, d.of(x, 1), d.of(x, 2))
	}
	if !x.Mem().Same(was) || x.Mem().Stats() != stats || !x.Locks().Same(locks) || x.Slab().Room(3) != room {
		t.Fatal("New does something")
	}
	for _, p := range some {
		if _, e := ended(t, p, x); e != api.OK || p.Left() {
			t.Fatal(e)
		}
	}
	if now := sound(t, x.Mem().View()); len(now.levels) != 2 || len(now.links()) != 3 || x.Slab().Room(3) != room-1 {
		t.Fatal(now.levels)
	}
}

// P18.1: lines are flushed, and there are fences, of the own client: what another one has marked stays pending.
func TestClients(t *testing.T) {
	for _, l := range []*land{owed(t, 2), cascade(t, 2, 2)} {
		for _, client := range []int{0, 1, 31, 63} {
			for other := range api.System + 1 {
				x := l.site()
				m := x.Mem()
				m.Store(192, 7)
				m.Flush(other, 192)
				if _, e := ended(t, l.debts()[0].of(x, client), x); e != api.OK {
					t.Fatal(client, e)
				}
				if (m.Pending(192) == 0) != (client == other) || len(m.Lines()) > 1 {
					t.Fatalf("client %d lets last what the client %d marked", client, other)
				}
			}
		}
	}
}

// P18.2: nothing is pending behind it of what it has changed, whatever stood, and was pending, in the new blocks.
func TestDirty(t *testing.T) {
	for seed := range 40 {
		d := dice(seed)
		l := cascade(t, 2, 0)
		if seed%2 == 0 {
			l = owed(t, 2)
		}
		x := l.site()
		to := least(t, x)
		for range d.roll(60) {
			x.Mem().Store(to+api.Addr(8*d.roll(24)), uint64(d.roll(999)))
			x.Mem().Evict(to+api.Addr(64*d.roll(3)), d.roll(2))
		}
		whole(t, x, 5, l.debts()[0], l.keys())
	}
}

// kept goes over what a crash may leave, of a memory in which at most some stores of some lines are pending.
func kept(m *pmem.Mem, do func(image []byte)) {
	lines := m.Lines()
	keep := make([]int, max(1, len(lines)))
	for {
		crashed := m.Copy()
		crashed.Crash(keep...)
		do(crashed.Image())
		i := 0
		for ; i < len(lines); i++ {
			if keep[i]++; keep[i] <= m.Pending(lines[i]) {
				break
			}
			keep[i] = 0
		}
		if i >= len(lines) {
			return
		}
	}
}

// some are arenas in which something is owed, of few nodes.
func some(t *testing.T) []*land {
	t.Helper()
	list := []*land{owed(t, 2), owed(t, 4), cascade(t, 1, 1), cascade(t, 2, 0), columns(t, 2, 3), columns(t, 1, 8)}
	for seed := 0; len(list) < 12; seed++ {
		if l := grown(t, 500+seed, true); len(l.nodes) < 25 && len(l.debts()) > 1 {
			list = append(list, l)
		}
	}
	return list
}

// P0.1, P0.3, P18.2: behind each step, in what is seen, and in what a crash leaves, whatever is kept, the arena is sound, what is reached is in use, at most one block is not reached, each key is found where it was, and all that was there leads where it led.
func TestAnyMoment(t *testing.T) {
	images, leaked := 0, 0
	for _, l := range some(t) {
		keys := l.keys()
		were, links := entries(t, l.mem.View(), 1, keys), sound(t, l.mem.View()).links()
		list := l.debts()
		for _, d := range list[:min(2, len(list))] {
			x := l.site()
			p := d.of(x, 5)
			look := func(image []byte) {
				images++
				found := sound(t, image)
				if leaks := found.leaks(); len(leaks) > 1 {
					t.Fatal("leaks:", leaks)
				} else if len(leaks) == 1 {
					leaked++
				}
				if !slices.Equal(entries(t, image, 1, keys), were) {
					t.Fatal("a key leads to somewhere else")
				}
				now := found.links()
				for k := range links {
					if !now[k] {
						t.Fatal("lost:", k)
					}
				}
			}
			for through := false; !through; {
				stores := x.Mem().Stats().Stores
				if through, _ = p.Step(); len(x.Mem().Lines()) > 1 {
					t.Fatal("pending is more than a line:", x.Mem().Lines())
				}
				if len(x.Mem().Lines()) > 0 || x.Mem().Stats().Stores != stores || through {
					look(x.Mem().View())
					kept(x.Mem(), look)
				}
			}
		}
	}
	if images < 3000 || leaked < 100 {
		t.Error("too few that tell something:", images, leaked)
	}
}

// P0.1, P0.3, P18.2: what a crash leaves, whatever was kept, can be gone on with: it is paid then, and all that the crash left owed.
func TestCrashes(t *testing.T) {
	owedMore := 0
	for _, l := range some(t) {
		keys := l.keys()
		were := entries(t, l.mem.View(), 1, keys)
		x, d := l.site(), l.debts()[0]
		p := d.of(x, 5)
		for through := false; !through; {
			stores := x.Mem().Stats().Stores
			if through, _ = p.Step(); x.Mem().Stats().Stores == stores {
				continue
			}
			kept(x.Mem(), func(image []byte) {
				m, _ := pmem.Of(image)
				y := siteOf(t, m, 2)
				again := d.of(y, 1)
				if _, e := ended(t, again, y); e != api.OK || again.Left() {
					t.Fatal(e)
				}
				now := sound(t, m.Image())
				if !now.links()[d] || len(m.Lines()) > 0 || !slices.Equal(entries(t, m.Image(), 1, keys), were) {
					t.Fatal("pending, or lost:", m.Lines(), d)
				}
				for level := range now.levels {
					for _, s := range fresh(l.levels[min(level, len(l.levels)-1)], now.of(level)) {
						if s.low > 0 && !now.links()[link{level + 1, s.low, s.at}] {
							owedMore++
							if _, e := ended(t, parent.New(y, 0, level+1, s.low, s.at), y); e != api.OK {
								t.Fatal(e)
							}
						}
					}
				}
				if sound(t, m.Image()); !slices.Equal(entries(t, m.Image(), 1, keys), were) {
					t.Fatal("a key leads to somewhere else")
				}
			})
		}
	}
	if owedMore < 50 {
		t.Error("too few that tell something:", owedMore)
	}
}

// P0.1, P18.2: gets, wherever they are when a parent goes on, are answered what the leaf has.
func TestGets(t *testing.T) {
	for _, l := range []*land{owed(t, 3), cascade(t, 2, 0)} {
		values := map[uint64]string{}
		for _, s := range l.levels[0] {
			n := l.nodes[s.at]
			if node.Len(n) == 0 && l.slab.Room(1) > 0 {
				n.Keys[0], n.Ptrs[0] = s.low+1, l.block(1)
				l.lay(s.at, n)
			}
			for _, e := range node.Valid(n) {
				values[e.Key] = "the value of " + string(rune('a'+e.Key%26))
				puts, f := value.Puts(e.Ptr, values[e.Key])
				if f != api.OK {
					t.Fatal(f)
				}
				for _, p := range puts {
					l.store(p.At, p.Word)
				}
			}
		}
		l.lasts()
		keys := slices.Sorted(maps.Keys(values))
		for pause := 0; pause < 400; pause += 7 {
			for slow := 1; slow < 5; slow++ {
				key := keys[(pause+slow)%len(keys)] + uint64(slow%4/3)
				x := l.site()
				p, g := l.debts()[0].of(x, 5), get.New(x, 6, key)
				for range pause {
					p.Step()
				}
				for steps, through := 0, false; !through; steps++ {
					if steps%slow == 0 {
						p.Step()
					}
					var e api.Errno
					if through, e = g.Step(); e != api.OK || steps > 3000 {
						t.Fatal(e, steps)
					}
				}
				v, there := values[key]
				want := api.Response{Value: v}
				if !there {
					want.Code = api.ErrNone
				}
				if r := g.Response(); r.Code != want.Code || r.Value != want.Value {
					t.Fatal("a get of", key, "is answered", r)
				}
			}
		}
	}
}

// P18.2: walks to any level, wherever they are when a parent goes on, come to the node in whose range the key is.
func TestWalks(t *testing.T) {
	for _, l := range some(t)[:6] {
		keys, d := l.keys(), l.debts()[0]
		were := entries(t, l.mem.View(), 1, keys)
		for pause := 0; pause < 500; pause += 3 {
			x, i := l.site(), pause%len(keys)
			level := pause % len(l.levels)
			p, w := d.of(x, 5), walk.New(x, 6, keys[i], level)
			for range pause {
				p.Step()
			}
			for steps, through := 0, false; !through; steps++ {
				if steps%(1+pause%5) == 0 {
					p.Step()
				}
				var e api.Errno
				if through, e = w.Step(); e != api.OK || steps > 3000 {
					t.Fatal(e, steps)
				}
			}
			_, n, _ := w.At()
			high, has := w.High()
			if n.Level != level || keys[i] < n.Low || has && keys[i] >= high || level == 0 && entry(n, keys[i]) != were[i] {
				t.Fatalf("a walk for %d comes to %v", keys[i], n)
			}
		}
	}
}

// waits holds that a parent waits for a lock that another client has: a step does nothing till it is released.
func waits(t *testing.T, p *parent.Parent, x *site.Site, client int, id api.Addr) {
	t.Helper()
	for n := 0; ; n++ {
		if on, is := x.Locks().Wants(client); is && on == id {
			break
		}
		if through, e := p.Step(); through || n > 1000 {
			t.Fatal("it does not wait for", id, e)
		}
	}
	was, stats := x.Mem().Copy(), x.Mem().Stats()
	for range 50 {
		through, e := p.Step()
		if on, is := x.Locks().Wants(client); through || e != api.OK || !is || on != id || len(x.Locks().Held(client)) > 0 {
			t.Fatal("a step while it waits:", through, e, on, is)
		}
	}
	if !x.Mem().Same(was) || x.Mem().Stats() != stats {
		t.Fatal("a step while it waits does something")
	}
}

// Words, P18.1: while another client has the node's lock, or that of the root's own address, a step does nothing; then it goes on.
func TestWaits(t *testing.T) {
	l := columns(t, 2, 3)
	for _, at := range []api.Addr{l.levels[2][0].at} {
		x, d := l.site(), l.debts()[0]
		x.Locks().Try(6, at)
		p := d.of(x, 5)
		waits(t, p, x, 5, at)
		x.Locks().Release(6, at)
		if _, e := ended(t, p, x); e != api.OK || !sound(t, x.Mem().View()).links()[d] {
			t.Fatal(e)
		}
	}
	l = owed(t, 2)
	x, d := l.site(), l.debts()[0]
	x.Locks().Try(6, super.RootAt())
	p := d.of(x, 5)
	waits(t, p, x, 5, super.RootAt())
	x.Locks().Release(6, super.RootAt())
	if _, e := ended(t, p, x); e != api.OK || !sound(t, x.Mem().View()).links()[d] {
		t.Fatal(e)
	}
	if l := x.Locks().Held(5); len(l) > 0 {
		t.Fatal("locks:", l)
	}
}

// Words: which locks it has: of nodes of the level, of one at most, and the one of the root's own address alone, from when the root is looked at up to when it is stored.
func TestLocks(t *testing.T) {
	for _, l := range some(t) {
		for _, d := range l.debts() {
			x := l.site()
			p := d.of(x, 5)
			for through := false; !through; {
				root, stores := wordAt(t, x.Mem().View(), super.RootAt()), x.Mem().Stats().Stores
				through, _ = p.Step()
				held := x.Locks().Held(5)
				if len(held) > 1 || through && len(held) > 0 {
					t.Fatal("locks:", held)
				}
				if x.Mem().Stats().Stores > stores && len(held) == 0 {
					t.Fatal("a store without a lock")
				}
				if wordAt(t, x.Mem().View(), super.RootAt()) != root && !slices.Equal(held, []api.Addr{super.RootAt()}) {
					t.Fatal("another root, with the locks", held)
				}
			}
		}
	}
}

// Words: a tree that another client lets grow, wherever this one is, grows once alone; what each is owed is there.
func TestGrowsOnce(t *testing.T) {
	l := owed(t, 4)
	list := l.debts()
	for pause := range 400 {
		x := l.site()
		first, second := list[0].of(x, 5), list[1+pause%2].of(x, 6)
		for range pause {
			first.Step()
		}
		locked := len(x.Locks().Held(5)) > 0
		for n := 0; ; n++ {
			if through, e := second.Step(); e != api.OK {
				t.Fatal(e)
			} else if through {
				break
			}
			if _, waits := x.Locks().Wants(6); waits {
				if !locked {
					t.Fatal("it waits for a lock that nobody has")
				}
				first.Step()
			}
		}
		if _, e := ended(t, first, x); e != api.OK {
			t.Fatal(e)
		}
		now := sound(t, x.Mem().View())
		if len(now.levels) != 2 || len(now.levels[0]) != 1 || !now.links()[list[0]] || !now.links()[list[1+pause%2]] || len(now.leaks()) > 0 {
			t.Fatal(now.levels, now.leaks())
		}
	}
}

// P18.1: the longest of it that there may be, as far as was found: many levels, each of whose nodes becomes two, behind a chain by Next as long as blocks allow, of nodes of as many words as there may be.
func TestLongest(t *testing.T) {
	most := 0
	for levels := 1; levels < 7; levels++ {
		ahead := (5*api.MaxSlabs - 1 - (levels + 1) - 4*levels*(levels+1) - (levels + 1)) / (levels + 1)
		l := cascade(t, levels, ahead)
		if l.slab.Room(3) < levels+1 {
			t.Fatal("too few blocks:", l.slab.Room(3))
		}
		x, d := l.site(), l.debts()
		p := d[len(d)-1].of(x, 5)
		for _, o := range d {
			if o.level == 1 {
				p = o.of(x, 5)
			}
		}
		n, e := ended(t, p, x)
		if e != api.OK || p.Left() {
			t.Fatal(e, p.Left())
		}
		most = max(most, n)
	}
	if most < 10000 {
		t.Error("too few that tell something:", most)
	}

}

// Left of none is no.
func TestLeftOfNone(t *testing.T) {
	var none *parent.Parent
	if none.Left() || (&parent.Parent{}).Left() {
		t.Error("left")
	}
}
