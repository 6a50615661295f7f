package put_test

import (
	"maps"
	"math"
	"slices"
	"strings"
	"testing"

	"levee/api"
	"levee/get"
	"levee/node"
	"levee/pmem"
	"levee/put"
	"levee/site"
	"levee/super"
	"levee/walk"
)

// whole does a put, alone, and holds all that is promised of it: how it is answered, and what is found then.
func whole(t *testing.T, x *site.Site, client int, key uint64, v string) (api.Errno, *looked) {
	t.Helper()
	was, locks := sound(t, x.Mem().View()), x.Locks().Copy()
	p := put.New(x, client, key, v)
	_, e := ended(t, p, x)
	code := p.Response().Code
	if e != api.OK || code != api.OK && code != api.ErrFull {
		t.Fatal(e, code)
	}
	if lines := x.Mem().Lines(); len(lines) > 0 {
		t.Fatal("pending:", lines)
	}
	if !x.Locks().Same(locks) {
		t.Fatal("it has a lock, or waits for one")
	}
	now, want := sound(t, x.Mem().View()), was.has
	if code == api.OK {
		want = with(was.has, key, v)
	}
	if !maps.Equal(now.has, want) {
		t.Fatalf("behind a put of %d, answered %d, there is another map", key, code)
	}
	if !slices.Equal(now.leaks(), was.leaks()) {
		t.Fatal("leaks:", now.leaks(), was.leaks())
	}
	for k := range was.links() {
		if !now.links()[k] {
			t.Fatal("lost:", k)
		}
	}
	if !slices.Equal(x.Slab().Used(), now.blocks.Used()) {
		t.Fatal("other blocks are in use than those that have lasted")
	}
	stays(t, p, x, api.OK, code)
	return code, now
}

// hops is to which leaf the way to a key goes by Next last, and whether it does.
func hops(t *testing.T, x *site.Site, key uint64) (link, bool) {
	t.Helper()
	w := walk.New(x, 1, key, 0)
	if _, _, e := site.Whole(x.Mem(), w.Step, 30000); e != api.OK {
		t.Fatal(e)
	}
	low, to, was := w.Hop()
	return link{1, low, to}, was
}

// gets is what a get is answered.
func gets(t *testing.T, x *site.Site, key uint64) api.Response {
	t.Helper()
	g := get.New(x, 2, key)
	if _, _, e := site.Whole(x.Mem(), g.Step, 30000); e != api.OK {
		t.Fatal(e)
	}
	return g.Response()
}

// The chapter's example.
func TestExample(t *testing.T) {
	x := empty(t, 2).site()
	for _, v := range []string{"x", "y"} {
		code, now := whole(t, x, 0, 7, v)
		if code != api.OK || len(x.Slab().Used()) != 2 || len(now.reach) != 2 {
			t.Fatal(code, x.Slab().Used())
		}
		if r := gets(t, x, 7); r.Code != api.OK || r.Value != v {
			t.Fatal("a get:", r)
		}
	}
}

// Words, P19.1: a value of each length there may be, in a block of its class; put anew, also by one of another class; the elder one's block is free again.
func TestValues(t *testing.T) {
	x := empty(t, 4).site()
	for length := range api.MaxValue + 1 {
		for _, key := range []uint64{5, uint64(length % 3)} {
			v := strings.Repeat(string(rune('a'+length%26)), length)
			if code, _ := whole(t, x, length%api.MaxClients, key, v); code != api.OK {
				t.Fatal(length, code)
			}
			if r := gets(t, x, key); r.Code != api.OK || r.Value != v {
				t.Fatal(length, r)
			}
			image, class := x.Mem().Image(), 1
			if length > 56 {
				class = 2
			}
			n := seen(t, image, api.Addr(wordAt(t, image, super.RootAt())))
			if p, ok := node.Find(n, key); !ok || classOf(x.Slab(), n.Ptrs[p]) != class {
				t.Fatal("a block of the class", classOf(x.Slab(), n.Ptrs[p]))
			}
		}
	}
	if n := len(x.Slab().Used()); n != 5 {
		t.Error("blocks in use:", n)
	}
}

// Words: the value that a key has is put anew, in another block.
func TestSameValue(t *testing.T) {
	l := row(t, 3, []uint64{0, 3, 5})
	x := l.site()
	at := seen(t, l.mem.Image(), l.levels[0][0].at).Ptrs[1]
	whole(t, x, 0, 5, l.has[5])
	if n := seen(t, x.Mem().Image(), l.levels[0][0].at); n.Ptrs[1] == at || x.Slab().Is(at) != 0 {
		t.Error("it is where it was")
	}
}

// P19.1, P19.2: the outermost keys, and those next to a leaf's Low, in leaves of each number of entries.
func TestKeys(t *testing.T) {
	outer := []uint64{0, 1, 99, 100, 101, 102, 199, 200, 201, 1 << 32, 1<<63 - 1, 1 << 63, math.MaxUint64 - 1, math.MaxUint64}
	for entries := range api.Fan + 1 {
		var groups [][]uint64
		for _, low := range []uint64{0, 100, 200} {
			g := []uint64{low}
			for i := range uint64(entries) {
				g = append(g, low+3*i)
			}
			groups = append(groups, g)
		}
		l := row(t, 8, groups...)
		for _, key := range outer {
			x := l.site()
			if code, _ := whole(t, x, 3, key, "new"); code != api.OK {
				t.Fatal(entries, key, code)
			}
			if r := gets(t, x, key); r.Code != api.OK || r.Value != "new" {
				t.Fatal(entries, key, r)
			}
		}
	}
}

// P19.1, P19.2: in arenas of many kinds each key next to a bound, or to another one, is put; the parent of each leaf that was come to by Next knows of it then.
func TestArenas(t *testing.T) {
	var counts [5]int // puts anew, new keys, splits, new roots, ways by Next
	for seed := range 20 {
		l := grown(t, seed, seed%2 == 1)
		for i, key := range l.keys() {
			x, d := l.site(), dice(i)
			if i%3 > 0 && l.has[key] == "" && len(l.levels[0]) > 4 {
				continue
			}
			way, hopped := hops(t, l.site(), key)
			code, now := whole(t, x, i%api.MaxClients, key, d.text())
			if code != api.OK {
				t.Fatal(code)
			}
			_, there := l.has[key]
			split, grew := len(now.of(0)) > len(l.levels[0]), len(now.levels) > len(l.levels)
			if _, still := hops(t, x, key); still || hopped && !split && !now.links()[way] {
				t.Fatal("what a way by Next owes is not there:", key, way)
			}
			for k, is := range []bool{there, !there, split, grew, hopped} {
				if is {
					counts[k]++
				}
			}
		}
	}
	if slices.Min(counts[:]) < 40 {
		t.Error("too few that tell something:", counts)
	}
}

// P19.2: puts of keys in many orders, one behind the other, in arenas of all sizes, up to where no block is free, and on: behind each the map is what the plain one is.
func TestOneBehindTheOther(t *testing.T) {
	full, anew, height := 0, 0, 0
	for seed := range 60 {
		d := dice(seed)
		slabs := 1 + seed%9
		if seed%10 == 9 {
			slabs = api.MaxSlabs
		}
		x, has := empty(t, slabs).site(), map[uint64]string{}
		for i := range 25 * slabs {
			if i > 300 {
				break
			}
			var key uint64
			switch seed % 5 {
			case 0:
				key = uint64(i)
			case 1:
				key = math.MaxUint64 - uint64(i)
			case 2:
				key = uint64(d.roll(40))
			case 3:
				key = uint64(d.roll(1<<30)) << 34
			case 4:
				key = uint64(i) * 0x9e3779b97f4a7c15
			}
			v := d.text()
			if seed%2 == 0 {
				v = "of class 1"
			}
			_, there := has[key]
			code, now := whole(t, x, d.roll(api.MaxClients), key, v)
			height = max(height, len(now.levels))
			switch {
			case code == api.ErrFull:
				full++
			case there:
				anew++
				has[key] = v
			default:
				has[key] = v
			}
			if !maps.Equal(now.has, has) {
				t.Fatal("another map behind", i, "puts")
			}
			if nodes := len(now.reach) - len(has); nodes < 1 || len(x.Slab().Used()) != len(now.reach) {
				t.Fatal("blocks in use:", x.Slab().Used())
			}
		}
	}
	if full < 300 || anew < 300 || height < 3 {
		t.Error("too few that tell something:", full, anew, height)
	}
}

// Words, P19.2: where no block is free for the value nothing is done at all; where one is, and none for a node, the map is as it was, and the value's block is free again.
func TestFull(t *testing.T) {
	for _, keys := range [][]uint64{{0}, {0, 5}, {0, 1, 2, 3, 4, 5, 6, 7, 8}} {
		values := [2]string{"short", strings.Repeat("long", 30)}
		for i, v := range values {
			l := row(t, 4, keys)
			l.block(1)
			l.block(2)
			l.fills(3, 0)
			l.fills(1+i, 0)
			for _, key := range []uint64{0, 5, 9, math.MaxUint64} {
				x := l.site()
				stats := x.Mem().Stats()
				if code, _ := whole(t, x, 1, key, v); code != api.ErrFull || x.Mem().Stats() != stats {
					t.Fatal(code, done(x.Mem(), stats))
				}
				// One of the other class is free.
				code, _ := whole(t, x, 1, key, values[1-i])
				if _, there := l.has[key]; (code == api.OK) != (len(keys) < 9 || there) {
					t.Fatal(code)
				}
			}
		}
	}
}

// Words, P19.2: a leaf that has to be split, where no block is free for a node; what is full once can be done when there is room.
func TestNoNode(t *testing.T) {
	l := row(t, 4, []uint64{0, 1, 2, 3, 4, 5, 6, 7, 8})
	l.fills(3, 0)
	x := l.site()
	for _, key := range []uint64{0, 9, math.MaxUint64} {
		if code, now := whole(t, x, 1, key, "v"); code != api.ErrFull || len(now.of(0)) > 1 {
			t.Fatal(code)
		}
	}
	for _, key := range []uint64{1, 5, 8} { // they have a place
		if code, _ := whole(t, x, 1, key, "v"); code != api.OK {
			t.Fatal(code)
		}
	}
	late := put.New(x, 5, 9, "late")
	leaks := sound(t, x.Mem().View()).leaks()
	for i, leak := range leaks {
		turn, e := x.Slab().Free(x.Mem(), api.System, leak)
		if e != api.OK {
			t.Fatal(e)
		}
		site.Whole(x.Mem(), turn.Step, 20)
		if i > 0 {
			continue
		}
		// One alone is free: the leaf becomes two, and a root of both is left.
		y := siteOf(t, x.Mem().Copy(), 2)
		if code, now := whole(t, y, 1, 9, "v"); code != api.OK || len(now.levels) != 1 || len(now.of(0)) != 2 {
			t.Fatal(code, now.levels)
		}
	}
	if _, e := ended(t, late, x); e != api.OK || late.Response().Code != api.OK {
		t.Fatal(e)
	}
	now := sound(t, x.Mem().View())
	if now.has[9] != "late" || len(now.levels) != 2 || len(now.leaks()) > 0 {
		t.Fatal(now.levels)
	}
}

// Words: the walk's last hop is told a parent ahead of the answer, whatever that is; where no block is free for that one, it is answered all the same; a hop that was not the last one is nobody's.
func TestHop(t *testing.T) {
	leaves := [][]uint64{{0, 1}, {10, 11, 12}, {20, 21, 22, 23, 24, 25, 26, 27, 28}}
	l := row(t, 4, leaves...)
	for _, key := range []uint64{11, 15, 21, 29, 20} {
		for room := range 3 {
			l := row(t, 4, leaves...)
			l.block(2)
			l.fills(3, room)
			x := l.site()
			s := l.leaf(key)
			_, there := l.has[key]
			splits := s.low == 20 && !there
			code, now := whole(t, x, 7, key, "v")
			if (code == api.ErrFull) != (splits && room == 0) {
				t.Fatal(key, room, code)
			}
			links := now.links()
			if told := links[link{1, s.low, s.at}]; told != (room > 1 || room == 1 && !splits) && key != 29 {
				t.Fatal(key, room, "is told:", told)
			}
			if key == 29 && room > 1 && !slices.ContainsFunc(now.of(0), func(s spot) bool { return s.low == 25 && links[link{1, 25, s.at}] }) {
				t.Fatal("a split is not told")
			}
			if room > 1 && key < 20 && links[link{1, 20, l.levels[0][2].at}] || key > 20 && links[link{1, 10, l.levels[0][1].at}] {
				t.Fatal(key, "a hop that was not the last one is told")
			}
			if len(now.of(0)) != 3 && !splits || room > 0 && splits && len(now.of(0)) != 4 {
				t.Fatal(key, room, now.levels)
			}
		}
	}
	// A new root costs a block, and there is one above already: the entry has room there, though no block is free.
	x := l.site()
	whole(t, x, 7, 11, "v")
	for x.Slab().Room(3) > 0 {
		x.Slab().Reserve(3)
	}
	code, now := whole(t, x, 7, 29, "v")
	if code != api.ErrFull || !now.links()[link{1, 20, l.levels[0][2].at}] {
		t.Fatal(code, "the hop of a put that is answered ErrFull is not told")
	}
}

// Words: behind a split, and its parent, the way is gone anew, and that one's hop counts: it goes from the first leaf to the lower half.
func TestHopBehindSplit(t *testing.T) {
	for key, told := range map[uint64]bool{22: true, 29: false} { // 22 is to go into the lower half, 29 into the upper one
		l := row(t, 5, []uint64{0, 1}, []uint64{20, 21, 23, 24, 25, 26, 27, 28, 30})
		x := l.site()
		_, now := whole(t, x, 7, key, "v")
		upper := now.of(0)[2]
		if upper.low != 26 || !now.links()[link{1, 26, upper.at}] {
			t.Fatal("a split is not told:", now.levels)
		}
		if now.links()[link{1, 20, l.levels[0][1].at}] != told {
			t.Fatal(key, "a hop is told:", !told)
		}
	}
}

// P19.1: New does nothing, and the arena is as it is at the first step.
func TestNewDoesNothing(t *testing.T) {
	l := row(t, 5, []uint64{0, 3, 5}, []uint64{10, 11})
	x := l.site()
	was, stats, locks, blocks := x.Mem().Copy(), x.Mem().Stats(), x.Locks().Copy(), rooms(x)
	var all []*put.Put
	for key := range uint64(12) {
		all = append(all, put.New(x, 1, key, "v"), put.New(x, 2, key, "w"))
	}
	if !x.Mem().Same(was) || x.Mem().Stats() != stats || !x.Locks().Same(locks) || rooms(x) != blocks {
		t.Fatal("New does something")
	}
	for _, p := range all {
		if _, e := ended(t, p, x); e != api.OK || p.Response().Code != api.OK {
			t.Fatal(e, p.Response())
		}
	}
	for key := range uint64(12) {
		if r := gets(t, x, key); r.Value != "w" {
			t.Fatal(key, r)
		}
	}
	if now := sound(t, x.Mem().View()); len(now.has) != 12 || len(now.leaks()) > 0 {
		t.Fatal(now.has)
	}
}

// P19.1: lines are flushed, and there are fences, of the own client: what another one has marked stays pending.
func TestClients(t *testing.T) {
	l := row(t, 5, []uint64{0, 1, 2, 3, 4, 5, 6, 7, 8}, []uint64{10, 11})
	for _, key := range []uint64{5, 9, 11, 12} {
		for _, client := range []int{0, 1, 31, 63} {
			for other := range api.System + 1 {
				x := l.site()
				m := x.Mem()
				m.Store(192, 7)
				m.Flush(other, 192)
				if _, e := ended(t, put.New(x, client, key, "v"), x); e != api.OK {
					t.Fatal(client, e)
				}
				if (m.Pending(192) == 0) != (client == other) || len(m.Lines()) > 1 {
					t.Fatalf("client %d lets last what the client %d marked", client, other)
				}
			}
		}
	}
}

// P19.2: nothing is pending behind it of what it has changed, whatever stood, and was pending, in the blocks that it takes.
func TestDirty(t *testing.T) {
	for seed := range 60 {
		d := dice(seed)
		l := row(t, 5, []uint64{0, 1, 2, 3, 4, 5, 6, 7, 8})
		x := l.site()
		for class := 1; class <= 3; class++ {
			a, _ := x.Slab().Reserve(class)
			x.Slab().Release(a)
			for range d.roll(40) {
				x.Mem().Store(a+api.Addr(8*d.roll(8*class)), uint64(d.roll(999)))
				x.Mem().Evict(a+api.Addr(64*d.roll(class)), d.roll(2))
			}
			for _, line := range x.Mem().Lines() { // a value that is shorter does not store to all lines of its block
				x.Mem().Evict(line, d.roll(2)*math.MaxInt)
			}
		}
		v := strings.Repeat("v", []int{56, 120}[seed%2])
		other := []int{2, 1}[seed%2]
		p := put.New(x, 5, uint64(d.roll(10)), v)
		if _, e := ended(t, p, x); e != api.OK || p.Response().Code != api.OK {
			t.Fatal(e)
		}
		for _, line := range x.Mem().Lines() {
			if class := classOf(x.Slab(), line); class != other && x.Slab().Is(line) != 0 {
				t.Fatal("pending:", line)
			}
		}
		if now := sound(t, x.Mem().Image()); len(now.leaks()) > 0 || len(now.has) < 8 {
			t.Fatal(now.has)
		}
	}
}

// kept goes over what a crash may leave, of a memory in which at most some stores of some lines are pending.
func kept(m *pmem.Mem, do func(image []byte)) {
	lines := m.Lines()
	keep := make([]int, max(1, len(lines)))
	for {
		crashed := m.Copy()
		crashed.Crash(keep...)
		do(crashed.Image())
		i := 0
		for ; i < len(lines); i++ {
			if keep[i]++; keep[i] <= m.Pending(lines[i]) {
				break
			}
			keep[i] = 0
		}
		if i >= len(lines) {
			return
		}
	}
}

// aim is a put that is to be done in an arena, for a test.
type aim struct {
	l   *land
	key uint64
	v   string
}

// of is that put.
func (a aim) of(x *site.Site, client int) *put.Put {
	return put.New(x, client, a.key, a.v)
}

// some are puts of all kinds: anew, new ones, with a leaf that becomes two, with a new root, with what is owed by Next, where a crash left something, where no block is free.
func some(t *testing.T) []aim {
	t.Helper()
	long := strings.Repeat("long", 30)
	full := row(t, 5, []uint64{0, 1, 2, 3, 4, 5, 6, 7, 8})
	list := []aim{
		{empty(t, 3), 7, "x"},
		{empty(t, 3), 0, long},
		{row(t, 3, []uint64{0, 3, 5, 7}), 5, long},
		{row(t, 3, []uint64{0, 3, 5, 7}), 4, "new"},
		{full, 0, "new"},
		{full, 9, long},
		{full, 4, "anew"},
		{row(t, 5, []uint64{0, 1}, []uint64{10, 11}, []uint64{20, 21}), 25, "new"},
		{row(t, 5, []uint64{0, 1}, []uint64{10, 11, 12}), 12, "anew"},
		{row(t, 5, []uint64{0, 1}, []uint64{10, 11, 12, 13, 14, 15, 16, 17, 18}), 10, "new"},
	}
	none := row(t, 5, []uint64{0, 1}, []uint64{10, 11, 12, 13, 14, 15, 16, 17, 18})
	none.block(2)
	none.fills(3, 0)
	one := row(t, 5, []uint64{0, 1}, []uint64{10, 11, 12, 13, 14, 15, 16, 17, 18})
	one.block(2)
	one.fills(3, 1)
	list = append(list, aim{none, 19, long}, aim{none, 13, long}, aim{one, 19, "left"})
	for seed := 0; len(list) < 20; seed++ {
		l, d := grown(t, 500+seed, seed%4 > 0), dice(seed)
		if keys := l.keys(); len(l.nodes) < 20 && len(l.levels) > 1 {
			list = append(list, aim{l, keys[d.roll(len(keys))], d.text()})
		}
	}
	return list
}

// P0.1, P0.3, P19.2: behind each step what is seen, and what has lasted, and what a crash leaves, whatever is kept, is the map without it, and from one store on with it; the arena is sound, what is reached is in use, and what is in use and not reached is a value's block, and a node's, at most.
func TestAnyMoment(t *testing.T) {
	images, leaked, answers := 0, 0, map[api.Errno]int{}
	for i, a := range some(t) {
		x := a.l.site()
		without, behind := a.l.has, with(a.l.has, a.key, a.v)
		leaks := sound(t, a.l.mem.View()).leaks()
		p := a.of(x, 5)
		is := func(image []byte) bool {
			images++
			found := sound(t, image)
			n := len(found.leaks()) - len(leaks)
			if n > 2 {
				t.Fatal(i, "leaks:", found.leaks())
			}
			leaked += n
			if !maps.Equal(found.has, without) && !maps.Equal(found.has, behind) {
				t.Fatalf("%d: another map: %v", i, found.has)
			}
			return maps.Equal(found.has, behind)
		}
		var view, lasted bool
		for through := false; !through; {
			stores := x.Mem().Stats().Stores
			through, _ = p.Step()
			if len(x.Mem().Lines()) > 1 {
				t.Fatal("pending is more than a line:", x.Mem().Lines())
			}
			if len(x.Mem().Lines()) == 0 && x.Mem().Stats().Stores == stores && !through {
				continue
			}
			elder, first := view, lasted
			view, lasted = is(x.Mem().View()), is(x.Mem().Image())
			if elder && !view || first && !lasted || lasted && !view {
				t.Fatal(i, "what was there is not any more")
			}
			kept(x.Mem(), func(image []byte) {
				if with := is(image); with && !view || !with && lasted {
					t.Fatal(i, "a crash leaves what was not there")
				}
			})
		}
		code := p.Response().Code
		answers[code]++
		if want := code == api.OK; view != want || lasted != want {
			t.Fatal(i, "it is answered", code, view, lasted)
		}
	}
	if images < 2000 || leaked < 500 || answers[api.OK] < 15 || answers[api.ErrFull] < 1 {
		t.Error("too few that tell something:", images, leaked, answers)
	}
}

// P0.1, P0.3, P19.2: what a crash leaves, whatever was kept, can be gone on with: all keys can be put there, and what leaked is given back.
func TestCrashes(t *testing.T) {
	crashes := 0
	for i, a := range some(t) {
		x := a.l.site()
		p := a.of(x, 5)
		for through := false; !through; {
			stores := x.Mem().Stats().Stores
			if through, _ = p.Step(); x.Mem().Stats().Stores == stores {
				continue
			}
			kept(x.Mem(), func(image []byte) {
				crashes++
				m, _ := pmem.Of(image)
				y, found := siteOf(t, m, 2), sound(t, image)
				for _, leak := range found.leaks() {
					turn, e := y.Slab().Free(m, api.System, leak)
					if e != api.OK {
						t.Fatal(e)
					}
					site.Whole(m, turn.Step, 20)
				}
				has := found.has
				for k, key := range []uint64{a.key, a.key + 1, a.key - 1, 11, 17, 26} {
					if k > 0 && (crashes+k)%3 > 0 {
						continue
					}
					v := []string{a.v, "behind a crash"}[crashes%2]
					if code, now := whole(t, y, 1, key, v); code == api.OK {
						has = now.has
					}
				}
				if now := sound(t, m.Image()); !maps.Equal(now.has, has) || len(now.leaks()) > 0 {
					t.Fatal(i, "another map, or leaks:", now.leaks())
				}
			})
		}
	}
	if crashes < 800 {
		t.Error("too few that tell something:", crashes)
	}
}

// P0.1: gets, wherever they are when a put goes on, are answered what the key had, or what it is to have, and what was answered once stays so, also behind a crash.
func TestGets(t *testing.T) {
	elder, newer := 0, 0
	for i, a := range some(t) {
		for slow := 1; slow < 8; slow += 2 {
			x, d := a.l.site(), dice(i)
			p, told := a.of(x, 5), false
			var beside []uint64 // a key that the put is not of
			for key := range a.l.has {
				if key != a.key {
					beside = append(beside, key)
				}
			}
			slices.Sort(beside)
			for through, n := false, 0; !through || n == 0; n++ {
				key := a.key
				if n%3 == 2 && len(beside) > 0 {
					key = beside[d.roll(len(beside))]
				}
				over := through
				g := get.New(x, 6, key)
				for steps, got := 0, false; !got; steps++ {
					if steps%slow == 0 && !through {
						through, _ = p.Step()
					}
					var e api.Errno
					if got, e = g.Step(); e != api.OK || steps > 30000 {
						t.Fatal(e, steps)
					}
				}
				r := g.Response()
				v, there := a.l.has[key]
				switch {
				case key == a.key && r.Code == api.OK && r.Value == a.v && !(there && v == a.v):
					told = true
					newer++
					m := x.Mem().Copy()
					m.Crash(0)
					if has := sound(t, m.Image()).has; has[key] != a.v {
						t.Fatal(i, "what a get was answered is lost")
					}
				case r.Value != v || (r.Code == api.OK) != there || told && key == a.key || over && p.Response().Code == api.OK && key == a.key && v != a.v:
					t.Fatal(i, "a get of", key, "is answered", r, told)
				default:
					elder++
				}
			}
		}
	}
	if elder < 300 || newer < 40 {
		t.Error("too few that tell something:", elder, newer)
	}
}

// waits holds that a put waits for a lock that another client has: a step does nothing till it is released.
func waits(t *testing.T, p *put.Put, x *site.Site, client int, id api.Addr) {
	t.Helper()
	for n := 0; ; n++ {
		if on, is := x.Locks().Wants(client); is && on == id {
			break
		}
		if through, e := p.Step(); through || n > 2000 {
			t.Fatal("it does not wait for", id, e)
		}
	}
	was, stats, blocks := x.Mem().Copy(), x.Mem().Stats(), rooms(x)
	for range 50 {
		through, e := p.Step()
		if on, is := x.Locks().Wants(client); through || e != api.OK || !is || on != id || len(x.Locks().Held(client)) > 0 {
			t.Fatal("a step while it waits:", through, e, on, is)
		}
	}
	if !x.Mem().Same(was) || x.Mem().Stats() != stats || rooms(x) != blocks {
		t.Fatal("a step while it waits does something")
	}
}

// Words: while another client has the leaf's lock, that of a node above, or that of the root's own address, a step does nothing; then it goes on.
func TestWaits(t *testing.T) {
	leaves := [][]uint64{{0, 1, 2, 3, 4, 5, 6, 7, 8}, {10, 11}}
	l := row(t, 5, leaves...)
	two := row(t, 5, leaves...)
	above := two.block(3)
	root := api.Node{Level: 1, First: two.levels[0][0].at}
	root.Keys[0], root.Ptrs[0] = 10, two.levels[0][1].at
	two.lay(above, root)
	two.root(above)
	two.lasts()
	for _, c := range []struct {
		l   *land
		key uint64
		id  api.Addr
	}{{l, 5, l.levels[0][0].at}, {l, 12, l.levels[0][1].at}, {l, 12, super.RootAt()}, {l, 9, super.RootAt()}, {two, 9, above}, {two, 5, l.levels[0][0].at}} {
		x := c.l.site()
		x.Locks().Try(6, c.id)
		p := put.New(x, 5, c.key, "v")
		waits(t, p, x, 5, c.id)
		x.Locks().Release(6, c.id)
		if _, e := ended(t, p, x); e != api.OK || p.Response().Code != api.OK {
			t.Fatal(e)
		}
		if now := sound(t, x.Mem().Image()); now.has[c.key] != "v" || len(x.Locks().Held(5)) > 0 || len(now.leaks()) > 0 {
			t.Fatal(now.has)
		}
	}
}

// Words: it has one lock at most; a leaf is stored to by whoever has its lock; none is left.
func TestLocks(t *testing.T) {
	for i, a := range some(t) {
		x := a.l.site()
		p := a.of(x, 5)
		leaves := map[api.Addr]bool{}
		for _, s := range a.l.levels[0] {
			leaves[s.at] = true
		}
		for through := false; !through; {
			was := x.Mem().View()
			through, _ = p.Step()
			held := x.Locks().Held(5)
			if len(held) > 1 || through && len(held) > 0 {
				t.Fatal("locks:", held)
			}
			now := x.Mem().View()
			for at := range leaves {
				if seen(t, now, at) != seen(t, was, at) && !slices.Equal(held, []api.Addr{at}) {
					t.Fatal(i, "a leaf is stored to without its lock, at", at, held)
				}
			}
		}
		if _, is := x.Locks().Wants(5); is {
			t.Fatal(i, "it waits")
		}
	}
}

// P19.1: the longest of it that there may be, as far as was found, alone, and in turns with another one: in a row of leaves by Next, as long as blocks allow, each of as many words as there may be, or in such a row of nodes above them.
func TestLongest(t *testing.T) {
	longest := 0
	for levels := range 3 {
		for full := range api.Fan + 1 {
			for _, owed := range []bool{false, true} {
				if levels == 0 && (full > 0 || owed) {
					continue
				}
				l, low := endless(t, levels, full, owed)
				for _, key := range []uint64{low + 1, low + 99} {
					x := l.site()
					p := put.New(x, 5, key, "v")
					n, e := ended(t, p, x)
					if e != api.OK || p.Response().Code != api.OK {
						t.Fatal(e, p.Response())
					}
					longest = max(longest, n)
					for _, beside := range []uint64{key, low + 2, 5} {
						x := l.site()
						two := [2]*put.Put{put.New(x, 5, key, "v"), put.New(x, 6, beside, "w")}
						for _, n := range turns(t, two, [2]int{1, 1}, func() {}) {
							longest = max(longest, n)
						}
					}
				}
			}
		}
	}
	if longest < 40000 {
		t.Error("too few that tell something:", longest)
	}
}

// endless is an arena of a row of nodes in the root's level, reached by Next alone, each of eight stale entries, as many as there may be; the last one of each level above the leaves' has as many entries as there may be, and so has one of its leaves, of which the Low is told: the one at that place from the left, or the one to the right of that, to which nothing leads from above.
func endless(t *testing.T, levels, place int, owed bool) (*land, uint64) {
	t.Helper()
	var d dice
	l := bare(t, api.MaxSlabs)
	extra := 8*levels + 2
	ahead := (5*(api.MaxSlabs-1) - 3 - 2*levels - extra*(levels+1)) / (levels + 1)
	var groups [][]spot
	for i := range ahead + extra {
		groups = append(groups, []spot{{low: uint64(1000 * i)}})
	}
	full := len(groups) - 1
	if levels > 0 {
		full -= api.Fan - place
	}
	low := groups[full][0].low
	for k := range api.Fan {
		key := low + uint64(10*k+10)
		l.has[key] = "v"
		groups[full] = append(groups[full], spot{l.value("v"), key})
	}
	l.chain(&d, 0, groups, false)
	for level := 1; level <= levels; level++ {
		below := l.levels[level-1]
		if level == 1 && owed && place > 0 {
			below = slices.Concat(below[:full], below[full+1:])
		}
		groups = nil
		split := len(below) - 1 - api.Fan
		for i := range split {
			groups = append(groups, below[i:i+1])
		}
		l.chain(&d, level, append(groups, below[split:]), false)
	}
	top := l.levels[levels]
	for i, s := range top[:len(top)-1] {
		n := l.nodes[s.at]
		for p := range api.Fan {
			n.Keys[p], n.Ptrs[p] = top[i+1].low+uint64(p), api.Addr(64*(p+1))
		}
		l.lay(s.at, n)
	}
	l.root(top[0].at)
	l.lasts()
	return l, low
}
