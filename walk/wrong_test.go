package walk_test

import (
	"math"
	"slices"
	"testing"

	"levee/api"
	"levee/pmem"
	"levee/site"
	"levee/walk"
)

// refused holds a walk that may not be, whether a step of it was asked for or not, and that it does nothing.
func refused(t *testing.T, w *walk.Walk, m *pmem.Mem, code api.Errno) {
	t.Helper()
	stats := m.Stats()
	tells(t, w, 0, api.Node{}, code, 0, false)
	hops(t, w, 0, 0, false)
	for range 4 {
		if done, e := w.Step(); !done || e != code {
			t.Fatalf("Step: %v, %d, not %d", done, e, code)
		}
		tells(t, w, 0, api.Node{}, code, 0, false)
		hops(t, w, 0, 0, false)
	}
	if m.Stats() != stats {
		t.Fatal("a walk that is refused does something")
	}
}

// The chapter's Errors: no walk, a zero one, no site, whatever else is wrong.
func TestNone(t *testing.T) {
	var none *walk.Walk
	refused(t, none, nil, api.ErrNil)
	refused(t, &walk.Walk{}, nil, api.ErrNil)
	for _, s := range []*site.Site{nil, {}} {
		for _, level := range []int{0, 1, api.MaxLevel, api.MaxLevel + 1, -1, math.MinInt} {
			for _, client := range []int{0, -1, 99} {
				w := walk.New(s, client, 5, level)
				if w == nil {
					t.Fatal("New: none")
				}
				refused(t, w, nil, api.ErrNil)
			}
		}
	}
}

// The chapter's Errors: levels that there are not, ahead of whatever the memory has, and of a client that there is not.
func TestLevels(t *testing.T) {
	l, a, b := two(t)
	for _, root := range []api.Addr{a, 0, 1, 3000, 4096, math.MaxUint64} {
		l.store(16, uint64(root))
		for _, level := range []int{-1, api.MaxLevel + 1, -16, 16, 64, 256, math.MinInt, math.MaxInt, -1 << 32, 1 << 32} {
			for _, client := range []int{0, -1, api.System + 1} {
				x := l.site()
				refused(t, walk.New(x, client, 50, level), x.Mem(), api.ErrArg)
			}
		}
	}
	l.store(16, uint64(a))
	for level := range api.MaxLevel + 1 {
		want := api.ErrNone
		if level == 0 {
			want = api.OK
		}
		w := walk.New(l.site(), 0, 50, level)
		if _, e := ended(t, w, 141); e != want {
			t.Errorf("level %d: %d", level, e)
		}
		tells(t, w, b, l.nodes[b], want, 0, false)
	}
}

// The chapter's Errors, those of 2: a client that the memory has not is refused where something is flushed, and nowhere else.
func TestNoClient(t *testing.T) {
	l, a, _ := two(t)
	for _, client := range []int{-1, api.System + 1, math.MinInt, math.MaxInt} {
		x := l.site()
		w := walk.New(x, client, 49, 0)
		if _, e := ended(t, w, 71); e != api.OK {
			t.Errorf("client %d: %d", client, e)
		}
		w = walk.New(x, client, 50, 0)
		if _, e := ended(t, w, 71); e != api.ErrArg {
			t.Errorf("client %d: %d", client, e)
		}
		tells(t, w, 0, api.Node{}, api.ErrArg, 0, false)
		hops(t, w, 0, 0, false)
		if x.Mem().Pending(a) != 1 {
			t.Errorf("client %d lets something last", client)
		}
		stays(t, w, x.Mem(), api.ErrArg)
	}
}

// The chapter's Errors, those of 2 and 11: a root, a First, a pointer to where there is no node.
func TestLeads(t *testing.T) {
	for _, c := range []struct {
		at   api.Addr
		code api.Errno
	}{
		{64, api.ErrBytes}, {1024, api.ErrBytes}, {1280, api.ErrBytes},
		{1089, api.ErrRange}, {1084, api.ErrRange}, {3072, api.ErrRange}, {3072 - 24, api.ErrRange},
		{1 << 20, api.ErrRange}, {1 << 32, api.ErrRange}, {1 << 63, api.ErrRange}, {math.MaxUint64, api.ErrRange}, {math.MaxUint64 - 63, api.ErrRange},
	} {
		byRoot, byFirst, byPtr := api.Node{}, api.Node{Level: 2, First: c.at}, api.Node{Level: 1, First: 1088}
		byPtr.Keys[0], byPtr.Ptrs[0] = 6, c.at
		for i, n := range []api.Node{byRoot, byFirst, byPtr} {
			l := bare(t, 2)
			a := l.block(3)
			l.root(a)
			l.lay(a, n)
			if i == 0 {
				l.store(16, uint64(c.at))
			}
			leads(t, l, c.code)
		}
	}
	l := bare(t, 2)
	leads(t, l, api.ErrBytes) // the root is 0
	l.root(1088)
	l.lay(1088, api.Node{Level: 1})
	leads(t, l, api.ErrBytes) // so is First
}

// leads holds a walk that comes to no node.
func leads(t *testing.T, l *land, code api.Errno) {
	t.Helper()
	x := l.site()
	w := walk.New(x, 0, 7, 0)
	if _, e := ended(t, w, 200); e != code {
		t.Fatalf("%d, not %d", e, code)
	}
	tells(t, w, 0, api.Node{}, code, 0, false)
	hops(t, w, 0, 0, false)
	stays(t, w, x.Mem(), code)
}

// The chapter's Errors: a Next that leads outside is met in the snapshot; one that leads to what is no node is gone by, behind the fence.
func TestWrongNext(t *testing.T) {
	l, a, b := two(t)
	for _, at := range []api.Addr{3072, 1 << 40, math.MaxUint64, 3} {
		l.store(a+16, uint64(at))
		x := l.site()
		w := walk.New(x, 0, 50, 0)
		if _, e := ended(t, w, 200); e != api.ErrRange {
			t.Errorf("Next %d: %d", at, e)
		}
		tells(t, w, 0, api.Node{}, api.ErrRange, 0, false)
		hops(t, w, 0, 0, false)
	}
	l.store(a+16, uint64(b))
	l.store(b, 7)
	x := l.site()
	w := walk.New(x, 0, 50, 0)
	if _, e := ended(t, w, 200); e != api.ErrBytes {
		t.Error(e)
	}
	tells(t, w, 0, api.Node{}, api.ErrBytes, 0, false)
	hops(t, w, 50, b, true)
	if x.Mem().Pending(a) != 0 {
		t.Error("a Next was gone by that has not lasted")
	}
	stays(t, w, x.Mem(), api.ErrBytes)
}

// Words: where an arena is not sound, a walk is done at whatever level it comes to that is not above the one looked for; ErrNone is of the root's level alone.
func TestMissedLevel(t *testing.T) {
	l := bare(t, 2)
	a, b := l.block(3), l.block(3)
	l.lay(a, api.Node{Level: 5, First: b})
	l.lay(b, api.Node{Level: 2, First: 64})
	l.root(a)
	for level, want := range map[int]struct {
		at   api.Addr
		code api.Errno
	}{2: {b, api.OK}, 3: {b, api.OK}, 4: {b, api.OK}, 5: {a, api.OK}, 6: {a, api.ErrNone}, 15: {a, api.ErrNone}} {
		w := walk.New(l.site(), 0, 9, level)
		if _, e := ended(t, w, 200); e != want.code {
			t.Errorf("level %d: %d", level, e)
		}
		tells(t, w, want.at, l.nodes[want.at], want.code, 0, false)
	}
}

// The chapter's Errors: a memory that is there no more, behind each step.
func TestGone(t *testing.T) {
	l, _, b := two(t)
	whole := walk.New(l.site(), 0, 50, 0)
	all, _ := ended(t, whole, 200)
	for steps := range all {
		x := l.site()
		was := x.Mem().Copy()
		w := walk.New(x, 0, 50, 0)
		for range steps {
			w.Step()
		}
		*x.Mem() = pmem.Mem{}
		tells(t, w, 0, api.Node{}, api.ErrNil, 0, false)
		stays(t, w, x.Mem(), api.ErrNil)
		*x.Mem() = *was
		stays(t, w, x.Mem(), api.ErrNil)
	}
	x := l.site()
	w := walk.New(x, 0, 50, 0)
	ended(t, w, 200)
	*x.Mem() = pmem.Mem{}
	tells(t, w, b, l.nodes[b], api.OK, 0, false)
	stays(t, w, x.Mem(), api.OK)
}

// P14.1: New does nothing, and walks of one site know nothing of one another.
func TestNewDoesNothing(t *testing.T) {
	l := grown(t, 12, true)
	x := l.site()
	was, stats := x.Mem().Copy(), x.Mem().Stats()
	var all []*walk.Walk
	for _, key := range l.keys() {
		all = append(all, walk.New(x, 1, key, 0))
	}
	if !x.Mem().Same(was) || x.Mem().Stats() != stats {
		t.Fatal("New does something")
	}
	for left := len(all); left > 0; {
		left = 0
		for _, w := range all {
			if done, e := w.Step(); e != api.OK {
				t.Fatal(e)
			} else if !done {
				left++
			}
		}
	}
	for i, key := range l.keys() {
		s, high, has := l.where(0, key)
		tells(t, all[i], s.at, cut(l.nodes[s.at]), api.OK, high, has)
	}
}

// P14.1, P0.3: locks and blocks stay as they are, also such as somebody has.
func TestLeavesTheRest(t *testing.T) {
	l := grown(t, 14, false)
	x := l.site()
	for c, s := range l.levels[0] {
		x.Locks().Try(c%api.MaxClients, s.at)
	}
	if _, e := x.Slab().Reserve(2); e != api.OK {
		t.Fatal(e)
	}
	locks, used, room := x.Locks().Copy(), x.Slab().Used(), x.Slab().Room(2)
	for i, key := range l.keys() {
		w := walk.New(x, i%api.MaxClients, key, 0)
		if _, e := ended(t, w, 70*400); e != api.OK {
			t.Fatal(e)
		}
	}
	if !x.Locks().Same(locks) || !slices.Equal(x.Slab().Used(), used) || x.Slab().Room(2) != room {
		t.Error("a walk has changed locks, or blocks")
	}
}
