package walk_test

import (
	"math"
	"slices"
	"testing"

	"levee/api"
	"levee/node"
	"levee/pmem"
	"levee/site"
	"levee/walk"
)

// done is how many primitives of each kind were done since.
func done(m *pmem.Mem, since api.Stats) api.Stats {
	s := m.Stats()
	return api.Stats{Loads: s.Loads - since.Loads, Stores: s.Stores - since.Stores, Flushes: s.Flushes - since.Flushes, Fences: s.Fences - since.Fences}
}

// whole does a walk in an arena where nobody stores, and holds all that it tells, and does, against what was laid.
func whole(t *testing.T, l *land, x *site.Site, key uint64, level int) {
	t.Helper()
	m, want := x.Mem(), l.way(key, level)
	view, lines, stats := m.View(), m.Lines(), m.Stats()
	w := walk.New(x, 3, key, level)
	tells(t, w, 0, api.Node{}, api.ErrState, 0, false)
	hops(t, w, 0, 0, false)
	steps, code, through := 0, api.OK, false
	for ; !through; steps++ {
		was := m.Stats()
		through, code = w.Step()
		if d := done(m, was); d.Loads+d.Flushes+d.Fences > 1 || d.Stores > 0 {
			t.Fatalf("step %d: %v", steps, d)
		}
		if !through {
			tells(t, w, 0, api.Node{}, api.ErrState, 0, false)
		}
	}
	if steps > 70*want.nodes+1 {
		t.Fatalf("%d steps, %d nodes", steps, want.nodes)
	}
	end, e := level, api.OK
	if level > l.top() {
		end, e = l.top(), api.ErrNone
	}
	s, high, has := l.where(end, key)
	if code != e {
		t.Fatalf("key %d, level %d: %d, not %d", key, level, code, e)
	}
	tells(t, w, s.at, cut(l.nodes[s.at]), e, high, has)
	hops(t, w, want.last.low, want.last.at, want.was)
	if !slices.Equal(view, m.View()) {
		t.Fatal("what is seen is something else")
	}
	lasted(t, m, lines, want.hopped)
	if d := done(m, stats); d.Flushes != uint64(len(want.hopped)) || d.Fences != d.Flushes {
		t.Fatalf("%d hops: %v", len(want.hopped), d)
	}
	stays(t, w, m, e)
}

// lasted holds that of the lines that were pending those have lasted that the walk went on from by Next, and no others.
func lasted(t *testing.T, m *pmem.Mem, lines, hopped []api.Addr) {
	t.Helper()
	left := slices.DeleteFunc(slices.Clone(lines), func(a api.Addr) bool { return slices.Contains(hopped, a) })
	if !slices.Equal(m.Lines(), left) {
		t.Fatalf("%v are pending, of %v, behind hops from %v", m.Lines(), lines, hopped)
	}
}

// The chapter's examples: a root that is a leaf.
func TestExamples(t *testing.T) {
	l := bare(t, 2)
	at := l.block(3)
	n, e := node.Make(at, 0, 0, 0, 0, api.Entry{Key: 5, Ptr: 2112}, api.Entry{Key: 9, Ptr: 2176})
	if at != 1088 || e != api.OK {
		t.Fatal(at, e)
	}
	l.lay(at, n)
	l.root(at)
	for _, key := range []uint64{0, 5, 6, 9, 10, math.MaxUint64} {
		for level, code := range []api.Errno{api.OK, api.ErrNone} {
			w := walk.New(l.site(), 0, key, level)
			if steps, e := ended(t, w, 71); e != code || steps < 13 {
				t.Errorf("key %d, level %d: %d, %d steps", key, level, e, steps)
			}
			tells(t, w, 1088, n, code, 0, false)
			hops(t, w, 0, 0, false)
		}
	}
}

// P14.1 to P14.3: arenas of many kinds, whole ones and such as crashes leave; walks for each key next to a bound, to each level that there is, and above.
func TestQuiet(t *testing.T) {
	hopped, none := 0, 0
	for seed := range 30 {
		l := grown(t, seed, seed%2 == 1)
		if seed%3 == 0 {
			l.lasts()
		}
		for i, key := range l.keys() {
			for level := range l.top() + 3 {
				if level > 1 && i%3 > 0 {
					continue
				}
				whole(t, l, l.site(), key, min(level, api.MaxLevel))
			}
			if len(l.way(key, 0).hopped) > 1 {
				hopped++
			}
			if len(l.way(key, l.top()+1).hopped) > 0 {
				none++
			}
		}
	}
	if hopped < 100 || none < 100 {
		t.Error("too few that tell something:", hopped, none)
	}
}

// P14.1, P14.3: an arena of all levels.
func TestTower(t *testing.T) {
	for _, flaws := range []bool{false, true} {
		l := tower(t, flaws)
		for i, key := range l.keys() {
			if i%7 == 0 || key > 1<<31 {
				for level := range api.MaxLevel + 1 {
					whole(t, l, l.site(), key, level)
				}
			}
		}
	}
}

// P14.3: walks of one site, one behind the other: what has lasted is not lost, and the second one is as the first one.
func TestAgain(t *testing.T) {
	for seed := range 20 {
		l := grown(t, 100+seed, true)
		x := l.site()
		for _, key := range l.keys() {
			for level := range l.top() + 1 {
				whole(t, l, x, key, level)
			}
		}
	}
}

// two is an arena of two leaves, of which the second one begins at the key 50; what is pending is the first one's Next.
func two(t *testing.T) (*land, api.Addr, api.Addr) {
	t.Helper()
	l := bare(t, 2)
	a, b := l.block(3), l.block(3)
	l.lay(a, api.Node{Low: 0, Count: 4, First: a})
	l.lay(b, api.Node{Low: 50, Count: 2, First: b})
	l.root(a)
	l.lasts()
	l.store(a+16, uint64(b))
	return l, a, b
}

// P14.1: the high bound's own key is beyond it, the one below is not; only a hop lets something last.
func TestBound(t *testing.T) {
	l, a, b := two(t)
	for _, key := range []uint64{0, 1, 49} {
		x := l.site()
		w := walk.New(x, 0, key, 0)
		ended(t, w, 71)
		tells(t, w, a, api.Node{Next: b, Count: 4, First: a}, api.OK, 50, true)
		hops(t, w, 0, 0, false)
		if x.Mem().Stats().Flushes != l.mem.Stats().Flushes || x.Mem().Pending(a) != 1 {
			t.Error("key", key, "lets something last")
		}
	}
	for _, key := range []uint64{50, 51, math.MaxUint64} {
		x := l.site()
		w := walk.New(x, 0, key, 0)
		ended(t, w, 141)
		tells(t, w, b, api.Node{Low: 50, Count: 2, First: b}, api.OK, 0, false)
		hops(t, w, 50, b, true)
		if x.Mem().Crash(0); x.Mem().Pending(a) != 0 || x.Mem().Image()[a+16] != byte(b) {
			t.Error("key", key, "went by what has not lasted")
		}
	}
}

// P14.1, P14.3: the line is flushed, and there is a fence, of the walk's own client: what another one has marked stays pending.
func TestClients(t *testing.T) {
	l, a, b := two(t)
	for _, client := range []int{0, 1, 2, 63, api.System} {
		for other := range api.System + 1 {
			x := l.site()
			m := x.Mem()
			m.Store(b+64, 7)
			m.Flush(other, b+64)
			w := walk.New(x, client, 50, 0)
			if _, e := ended(t, w, 141); e != api.OK {
				t.Fatal(client, e)
			}
			if m.Pending(a) != 0 {
				t.Fatalf("client %d went by what has not lasted", client)
			}
			if (m.Pending(b+64) == 0) != (client == other) {
				t.Fatalf("client %d lets last what the client %d marked", client, other)
			}
		}
	}
}

// P14.2: hops at other levels are none at the level that is looked for, and of several ones the last one is told, from the step on that comes behind its fence.
func TestHops(t *testing.T) {
	l := bare(t, 4)
	var at [2][4]api.Addr
	for level := range at {
		for i := range at[level] {
			at[level][i] = l.block(3)
		}
	}
	for i := range at[0] {
		leaf, inner := api.Node{Low: uint64(10 * i), First: at[0][i]}, api.Node{Level: 1, Low: uint64(10 * i), First: at[0][i]}
		if i < 3 {
			leaf.Next, inner.Next = at[0][i+1], at[1][i+1]
		}
		l.lay(at[0][i], leaf)
		l.lay(at[1][i], inner)
	}
	l.root(at[1][0])
	for _, c := range []struct {
		key   uint64
		level int
		hops  int
	}{{5, 0, 0}, {35, 0, 0}, {35, 1, 3}, {25, 1, 2}, {10, 1, 1}, {9, 1, 0}, {35, 2, 0}, {25, 15, 0}} {
		x := l.site()
		w := walk.New(x, 0, c.key, c.level)
		flushed := x.Mem().Stats().Fences
		for through := false; !through; through, _ = w.Step() {
			if n := int(x.Mem().Stats().Fences - flushed); n > 0 && c.level == 1 {
				hops(t, w, uint64(10*n), at[1][n], true)
			} else {
				hops(t, w, 0, 0, false)
			}
		}
		if c.hops > 0 {
			hops(t, w, uint64(10*c.hops), at[1][c.hops], true)
		} else {
			hops(t, w, 0, 0, false)
		}
	}
	l.root(at[0][0])
	w := walk.New(l.site(), 0, 35, 1)
	if _, e := ended(t, w, 300); e != api.ErrNone {
		t.Error(e)
	}
	tells(t, w, at[0][3], l.nodes[at[0][3]], api.ErrNone, 0, false)
	hops(t, w, 0, 0, false)
}
