package get_test

import (
	"math"
	"slices"
	"testing"

	"levee/api"
	"levee/get"
	"levee/node"
	"levee/pmem"
	"levee/site"
	"levee/snap"
	"levee/value"
	"levee/walk"
)

// whole does a get in an arena where nobody stores, and holds all that it tells, and does, against what was laid.
func whole(t *testing.T, l *land, x *site.Site, client int, key uint64) {
	t.Helper()
	m, want := x.Mem(), answer(l.has, key)
	view, lines, route := m.View(), m.Lines(), way(t, x, key)
	stats := m.Stats()
	g := get.New(x, client, key)
	tells(t, g, api.Response{}, 0)
	steps, e := ended(t, g, m, 70*l.nodes()+40)
	if e != api.OK {
		t.Fatal("key", key, e)
	}
	tells(t, g, want, 0)
	stays(t, g, m, api.OK)
	walked, hops, d := route.steps, route.hops, done(m, stats)
	if want.Code == api.OK {
		walked += value.Words(len(want.Value)) + 2
	}
	if steps != walked+4 || int(d.Loads) != walked-2*hops || int(d.Flushes) != 3+hops || int(d.Fences) != 1+hops {
		t.Fatalf("key %d, %v: %d steps, %v; a walk has %v", key, want, steps, d, route)
	}
	if !slices.Equal(view, m.View()) {
		t.Fatal("what is seen is something else")
	}
	lasting := append(route.lasted, snap.Lines(l.leaf(key))...)
	left := slices.DeleteFunc(lines, func(a api.Addr) bool { return slices.Contains(lasting, a) })
	if !slices.Equal(m.Lines(), left) {
		t.Fatalf("key %d: %v are pending, not %v", key, m.Lines(), left)
	}
}

// route is how many steps a walk to a key's leaf has, how many hops, and in which lines it lets something last.
type route struct {
	steps  int
	hops   int
	lasted []api.Addr
}

func way(t *testing.T, x *site.Site, key uint64) route {
	t.Helper()
	m, r := x.Mem().Copy(), route{}
	lines := m.Lines()
	w := walk.New(siteOf(t, m, x.Slab()), 1, key, 0)
	for through := false; !through; r.steps++ {
		var e api.Errno
		if through, e = w.Step(); e != api.OK {
			t.Fatal(e)
		}
	}
	r.hops = int(m.Stats().Fences - x.Mem().Stats().Fences)
	r.lasted = slices.DeleteFunc(lines, func(a api.Addr) bool { return m.Pending(a) > 0 })
	return r
}

// The chapter's examples.
func TestExamples(t *testing.T) {
	l := bare(t, 2)
	at := l.block(3)
	n, e := node.Make(at, 0, 0, 0, 0, api.Entry{Key: 5, Ptr: l.value("five")})
	if e != api.OK {
		t.Fatal(e)
	}
	l.lay(at, n)
	l.root(at)
	for key, want := range map[uint64]api.Response{
		5: {Value: "five"}, 6: {Code: api.ErrNone}, 4: {Code: api.ErrNone}, 0: {Code: api.ErrNone}, math.MaxUint64: {Code: api.ErrNone},
	} {
		x := l.site()
		g := get.New(x, 0, key)
		if _, e := ended(t, g, x.Mem(), 110); e != api.OK {
			t.Error(e)
		}
		tells(t, g, want, 0)
	}
}

// P15.1, P15.2: arenas of many kinds, whole ones and such as crashes leave: each key that they have, and those next to it.
func TestQuiet(t *testing.T) {
	found, none := 0, 0
	for seed := range 40 {
		l := grown(t, seed, seed%2 == 1)
		if seed%3 == 0 {
			l.lasts()
		}
		for i, key := range l.keys() {
			whole(t, l, l.site(), i%(api.System+1), key)
			if _, ok := l.has[key]; ok {
				found++
			} else {
				none++
			}
		}
	}
	if found < 500 || none < 500 {
		t.Error("too few that tell something:", found, none)
	}
}

// P15.2: gets of one site, one behind the other: what has lasted is not lost, and the second one is as the first one.
func TestAgain(t *testing.T) {
	for seed := range 10 {
		l := grown(t, 100+seed, true)
		x := l.site()
		for _, key := range append(l.keys(), l.keys()...) {
			whole(t, l, x, 2, key)
		}
	}
}

// P15.1, P15.2: a value of every length, also with whatever behind it in its block.
func TestLengths(t *testing.T) {
	for length := range api.MaxValue + 1 {
		l := bare(t, 3)
		l.value("another one")
		at := l.block(3)
		s := long("abcdefghijk", length)
		ptr := l.value(s)
		class, _ := value.Class(s)
		for k := value.Words(length); k < 8*class; k++ {
			l.store(ptr+api.Addr(8*k), math.MaxUint64)
		}
		l.lay(at, api.Node{Count: 7, First: at, Keys: [8]uint64{9}, Ptrs: [8]api.Addr{ptr}})
		l.root(at)
		l.levels = [][]spot{{{at, 0}}}
		l.has[9] = s
		whole(t, l, l.site(), 0, 9)
		whole(t, l, l.site(), 0, 8)
	}
}

// Words: an entry that is not valid is none of that key; of the same key in the place behind the value is answered.
func TestNotValid(t *testing.T) {
	l := bare(t, 2)
	at, a, b := l.block(3), l.value("a"), l.value("b")
	l.root(at)
	for _, c := range []struct {
		keys []uint64
		ptrs []api.Addr
		has  map[uint64]string
	}{
		{[]uint64{5}, []api.Addr{at}, nil},
		{[]uint64{5, 5}, []api.Addr{at, a}, map[uint64]string{5: "a"}},
		{[]uint64{5, 7}, []api.Addr{a, a}, map[uint64]string{5: "a"}},
		{[]uint64{5, 7, 7}, []api.Addr{a, a, b}, map[uint64]string{5: "a", 7: "b"}},
		{[]uint64{5, 5, 7}, []api.Addr{a, a, b}, map[uint64]string{5: "a", 7: "b"}},
		{[]uint64{5, 7, 9}, []api.Addr{a, 0, b}, map[uint64]string{5: "a"}},
		{[]uint64{5, 7}, []api.Addr{0, b}, nil},
	} {
		n := api.Node{Count: 2, First: at}
		copy(n.Keys[:], c.keys)
		copy(n.Ptrs[:], c.ptrs)
		l.lay(at, n)
		l.has, l.levels = c.has, [][]spot{{{at, 0}}}
		for key := uint64(4); key < 11; key++ {
			whole(t, l, l.site(), 1, key)
		}
	}
}

// P15.2: a stale entry is none: the key is looked for in Next.
func TestStale(t *testing.T) {
	l := bare(t, 2)
	a, b, old, now := l.block(3), l.block(3), l.value("old"), l.value("new")
	l.lay(a, api.Node{Next: b, Count: 1, First: a, Keys: [8]uint64{3, 50, 60}, Ptrs: [8]api.Addr{old, old + 64, old + 128}})
	l.lay(b, api.Node{Low: 50, Count: 1, First: b, Keys: [8]uint64{50}, Ptrs: [8]api.Addr{now}})
	l.root(a)
	l.has, l.levels = map[uint64]string{3: "old", 50: "new"}, [][]spot{{{a, 0}, {b, 50}}}
	for _, key := range []uint64{0, 3, 4, 49, 50, 51, 60, math.MaxUint64} {
		whole(t, l, l.site(), 1, key)
	}
}

// P15.2: each line of the leaf has lasted behind a get, of a key that is there, and of one that is not, by that client's own marks: what another one marked elsewhere is pending still.
func TestLasts(t *testing.T) {
	l := bare(t, 2)
	at, other := l.block(3), l.block(3)
	l.lay(at, api.Node{Count: 7, First: at, Keys: [8]uint64{5}, Ptrs: [8]api.Addr{l.value("five")}})
	l.root(at)
	l.lasts()
	for _, key := range []uint64{5, 6} {
		for _, client := range []int{0, 1, 63, api.System} {
			for line := range 3 {
				for marks := range api.System + 1 {
					x := l.site()
					m := x.Mem()
					a := at + api.Addr(64*line+40) // a word that tells nothing, but of the entry 6 its pointer
					m.Store(a, 77)
					m.Store(other, 1)
					m.Flush(marks, other)
					g := get.New(x, client, key)
					ended(t, g, m, 110)
					tells(t, g, answer(map[uint64]string{5: "five"}, key), 0)
					if m.Pending(a) != 0 {
						t.Fatalf("key %d, client %d: what is pending in the leaf's line %d has not lasted", key, client, line)
					}
					if (m.Pending(other) == 0) != (client == marks) {
						t.Fatalf("client %d lets last what the client %d marked", client, marks)
					}
				}
			}
		}
	}
}

// P15.2: the leaf's lines are made to last behind the look at the value, and all of them ahead of the answer: whatever step the power goes behind, a get that was answered holds.
func TestLastsAheadOfTheAnswer(t *testing.T) {
	l := bare(t, 2)
	at, a, b := l.block(3), l.value("elder"), l.value("new")
	l.lay(at, api.Node{Count: 7, First: at, Keys: [8]uint64{5}, Ptrs: [8]api.Addr{a}})
	l.root(at)
	l.lasts()
	l.store(at+24, 8)
	l.store(at+72, uint64(b))
	l.store(at+24, 9)
	for steps := range 110 {
		x := l.site()
		g, through := get.New(x, 0, 5), false
		for range steps {
			through, _ = g.Step()
		}
		x.Mem().Crash()
		again := get.New(x, 0, 5)
		ended(t, again, x.Mem(), 110)
		if through && !same(g.Response(), again.Response()) || again.Response().Value != "elder" && again.Response().Value != "new" {
			t.Fatalf("behind %d steps: %v, then %v", steps, g.Response(), again.Response())
		}
	}
}

// P15.1: New does nothing, and gets of one site know nothing of one another.
func TestNewDoesNothing(t *testing.T) {
	l := grown(t, 12, true)
	x := l.site()
	was, stats := x.Mem().Copy(), x.Mem().Stats()
	var all []*get.Get
	for i, key := range l.keys() {
		all = append(all, get.New(x, i%api.MaxClients, key))
	}
	if !x.Mem().Same(was) || x.Mem().Stats() != stats {
		t.Fatal("New does something")
	}
	for left := len(all); left > 0; {
		left = 0
		for _, g := range all {
			if through, e := g.Step(); e != api.OK {
				t.Fatal(e)
			} else if !through {
				tells(t, g, api.Response{}, 0)
				left++
			}
		}
	}
	for i, key := range l.keys() {
		tells(t, all[i], answer(l.has, key), 0)
	}
}

// P15.1, P0.3: locks and blocks stay as they are, also such as somebody has: readers take no locks.
func TestLeavesTheRest(t *testing.T) {
	l := grown(t, 14, false)
	x := l.site()
	for c, s := range l.levels[0] {
		x.Locks().Try(c%api.MaxClients, s.at)
	}
	if _, e := x.Slab().Reserve(2); e != api.OK {
		t.Fatal(e)
	}
	locks, used, room := x.Locks().Copy(), x.Slab().Used(), x.Slab().Room(2)
	for i, key := range l.keys() {
		whole(t, l, x, i%api.MaxClients, key)
	}
	if !x.Locks().Same(locks) || !slices.Equal(x.Slab().Used(), used) || x.Slab().Room(2) != room {
		t.Error("a get has changed locks, or blocks")
	}
}

// P15.1: what is answered is new each time: whoever changes it changes nothing of the get's.
func TestResponseIsNew(t *testing.T) {
	l := grown(t, 3, false)
	for key, s := range l.has {
		x := l.site()
		g := get.New(x, 0, key)
		ended(t, g, x.Mem(), 70*l.nodes()+40)
		r := g.Response()
		r.Code, r.Value, r.Pairs = api.ErrFull, "x", append(r.Pairs, api.Pair{Key: 1})
		*x.Mem() = pmem.Mem{}
		tells(t, g, api.Response{Value: s}, 0)
	}
}
