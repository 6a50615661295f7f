package parent_test

import (
	"math"
	"slices"
	"testing"

	"levee/api"
	"levee/geo"
	"levee/node"
	"levee/parent"
	"levee/pmem"
	"levee/site"
	"levee/slab"
	"levee/super"
	"levee/word"
)

// dice is a row of numbers that look like chance, the same each time.
type dice uint64

func (d *dice) roll(n int) int {
	*d = *d*6364136223846793005 + 1442695040888963407
	return int(uint64(*d)>>33) % n
}

// spot is a node of a chain, or a child of one: where it is, and its Low.
type spot struct {
	at  api.Addr
	low uint64
}

// land is an arena that is laid for a test: its levels' chains, from the leaves on up, each from the left, and what each node was.
type land struct {
	t      *testing.T
	mem    *pmem.Mem
	slab   *slab.Slab
	levels [][]spot
	nodes  map[api.Addr]api.Node
}

// bare is an arena without nodes.
func bare(t *testing.T, slabs int) *land {
	t.Helper()
	image := make([]byte, geo.Size(slabs))
	m, e := pmem.Of(image)
	s, f := slab.Of(image)
	if e != api.OK || f != api.OK {
		t.Fatal(e, f)
	}
	return &land{t: t, mem: m, slab: s, nodes: map[api.Addr]api.Node{}}
}

// block is a new one, published.
func (l *land) block(class int) api.Addr {
	l.t.Helper()
	a, e := l.slab.Reserve(class)
	if e != api.OK {
		l.t.Fatal("a block of the class", class, e)
	}
	turn, e := l.slab.Publish(l.mem, api.System, a)
	if e != api.OK {
		l.t.Fatal(e)
	}
	if _, _, e := site.Whole(l.mem, turn.Step, 20); e != api.OK {
		l.t.Fatal(e)
	}
	return a
}

// store stores a word, which is pending then.
func (l *land) store(at api.Addr, w uint64) {
	l.t.Helper()
	if e := l.mem.Store(at, w); e != api.OK {
		l.t.Fatalf("a store to %d: %d", at, e)
	}
}

// lay stores a node's words.
func (l *land) lay(at api.Addr, n api.Node) {
	l.t.Helper()
	for k, w := range node.Words(n) {
		l.store(at+api.Addr(8*k), w)
	}
	l.nodes[at] = n
}

// root lets the arena have that one.
func (l *land) root(at api.Addr) {
	l.t.Helper()
	s, e := super.New(l.slab.Slabs(), at)
	if e != api.OK {
		l.t.Fatal(e)
	}
	for k, w := range super.Words(s) {
		l.store(api.Addr(8*k), w)
	}
}

// lasts lets all last that is pending.
func (l *land) lasts() {
	l.t.Helper()
	for _, a := range l.mem.Lines() {
		if _, e := l.mem.Evict(a, math.MaxInt); e != api.OK {
			l.t.Fatal(e)
		}
	}
}

// site is one of a memory like the arena's, and of blocks as its headers say, that goes on apart.
func (l *land) site() *site.Site {
	l.t.Helper()
	return siteOf(l.t, l.mem.Copy(), api.MaxClients)
}

// siteOf is a site of a memory, of the blocks that its image has.
func siteOf(t *testing.T, m *pmem.Mem, clients int) *site.Site {
	t.Helper()
	s, e := slab.Of(m.Image())
	if e != api.OK {
		t.Fatal("an image is refused:", e)
	}
	x, e := site.New(m, s, clients)
	if e != api.OK {
		t.Fatal(e)
	}
	return x
}

// chain lays a level: the nodes of these entries, to the children of which the first one is First.
func (l *land) chain(d *dice, level int, groups [][]spot, flaws bool) {
	l.t.Helper()
	var spots []spot
	for _, g := range groups {
		spots = append(spots, spot{l.block(3), g[0].low})
	}
	for i, g := range groups {
		var next api.Addr
		high := uint64(math.MaxUint64)
		if i+1 < len(groups) {
			next, high = spots[i+1].at, spots[i+1].low
		}
		at, first := spots[i].at, g[0].at
		if level == 0 {
			first = at
		}
		n := api.Node{Level: level, Low: g[0].low, Next: next, Count: uint64(d.roll(9)), First: first}
		for p, s := range g[1:] {
			n.Keys[p], n.Ptrs[p] = s.low, s.at
		}
		if flaws {
			n = flawed(d, n, high)
		}
		if !node.May(n, high, next != 0) {
			l.t.Fatalf("a node that may not be: %v, %d", n, high)
		}
		l.lay(at, n)
	}
	l.levels = append(l.levels, spots)
}

// flawed is a node, if it has not all the entries that there may be, with what a crash may have left of a change: an entry that is not valid, a stale one, and words behind the first pointer 0.
func flawed(d *dice, n api.Node, high uint64) api.Node {
	length := node.Len(n)
	if n.Next != 0 && length < api.Fan && d.roll(2) == 0 {
		n.Keys[length], n.Ptrs[length] = high+uint64(d.roll(2)), 128
		length++
	}
	if length < api.Fan && d.roll(2) == 0 {
		p := d.roll(length + 1)
		copy(n.Keys[p+1:length+1], n.Keys[p:length])
		copy(n.Ptrs[p+1:length+1], n.Ptrs[p:length])
		n.Ptrs[p] = n.First
		if p > 0 {
			n.Ptrs[p] = n.Ptrs[p-1]
		}
		length++
	}
	for p := length + 1; p < api.Fan; p++ {
		n.Keys[p], n.Ptrs[p] = uint64(d.roll(99)), api.Addr(64*d.roll(9))
	}
	return n
}

// leaves are the groups of a level of so many leaves, whose Lows rise by chance, many of them with all the entries that there may be; First of each has no meaning.
func (l *land) leaves(d *dice, n int) [][]spot {
	l.t.Helper()
	var groups [][]spot
	low := uint64(0)
	for range n {
		g := []spot{{low: low}}
		key := low + uint64(d.roll(3))
		entries := api.Fan
		if d.roll(2) == 0 {
			entries = d.roll(api.Fan)
		}
		for range entries {
			g = append(g, spot{l.block(1), key})
			key += uint64(1 + d.roll(3))
		}
		groups = append(groups, g)
		low = key + uint64(1+d.roll(4))
	}
	return groups
}

// above are the groups of a level above one, many of them of all the children that there may be, if not all have few; to some that are not the first one nothing leads, as where a parent is owed.
func above(d *dice, below []spot, few bool) [][]spot {
	groups := [][]spot{{below[0]}}
	room := func() int {
		if few || d.roll(3) == 0 {
			return d.roll(2)
		}
		return api.Fan
	}
	left := room()
	for _, s := range below[1:] {
		switch {
		case d.roll(6) == 0:
		case left == 0:
			groups = append(groups, []spot{s})
			left = room()
		default:
			last := len(groups) - 1
			groups[last] = append(groups[last], s)
			left--
		}
	}
	return groups
}

// grown is an arena of so many leaves, and levels as chance has it; its root may have a Next.
func grown(t *testing.T, seed int, flaws bool) *land {
	t.Helper()
	d := dice(seed)
	l := bare(t, 50)
	l.chain(&d, 0, l.leaves(&d, 1+d.roll(40)), flaws)
	for level := 1; level <= api.MaxLevel; level++ {
		below := l.levels[level-1]
		if d.roll(9) == 0 || len(below) == 1 {
			break
		}
		l.chain(&d, level, above(&d, below, level%2 == seed%2), flaws)
	}
	l.root(l.levels[len(l.levels)-1][0].at)
	l.lasts()
	return l
}

// cascade is an arena in which the last node of each of so many levels above the leaves' has as many entries as there may be, and the parent of a leaf to the right of the last one's children is owed; ahead of all that are so many nodes more in each level, the topmost ones reached by Next alone, with stale entries as many as there may be.
func cascade(t *testing.T, levels, ahead int) *land {
	t.Helper()
	d := dice(levels)
	l := bare(t, api.MaxSlabs)
	var groups [][]spot
	for i := range ahead + 8*levels + 2 {
		groups = append(groups, []spot{{low: uint64(100 * i)}})
	}
	l.chain(&d, 0, groups, false)
	for level := 1; level <= levels; level++ {
		below := l.levels[level-1]
		groups = nil
		for i := range ahead + 8*(levels-level) {
			groups = append(groups, below[i:i+1])
		}
		full := len(groups)
		l.chain(&d, level, append(groups, below[full:full+1+api.Fan]), false)
	}
	top := l.levels[levels]
	for i, s := range top[:ahead] {
		n := l.nodes[s.at]
		for p := range api.Fan {
			n.Keys[p], n.Ptrs[p] = top[i+1].low+uint64(p), api.Addr(64*(p+1))
		}
		l.lay(s.at, n)
	}
	l.root(top[0].at)
	l.lasts()
	return l
}

// columns is an arena of a root of a level, with so many entries, below which each level has one node for each of its children, and one more, to which nothing leads from the level below the root's.
func columns(t *testing.T, level, entries int) *land {
	t.Helper()
	d := dice(level)
	l := bare(t, api.MaxSlabs)
	var groups [][]spot
	for i := range entries + 2 {
		groups = append(groups, []spot{{low: uint64(100 * i)}})
	}
	l.chain(&d, 0, groups, false)
	for j := 1; j < level; j++ {
		groups = nil
		for i := range l.levels[j-1] {
			groups = append(groups, l.levels[j-1][i:i+1])
		}
		l.chain(&d, j, groups, false)
	}
	l.chain(&d, level, [][]spot{l.levels[level-1][:entries+1]}, false)
	l.root(l.levels[level][0].at)
	l.lasts()
	return l
}

// debt is what is owed: a level, a Low, a child.
type debt struct {
	level int
	low   uint64
	child api.Addr
}

// debts are what is owed in the arena: to these nodes nothing leads from above.
func (l *land) debts() []debt {
	var list []debt
	for level, chain := range l.levels {
		led := map[api.Addr]bool{chain[0].at: true}
		if level+1 < len(l.levels) {
			for _, s := range l.levels[level+1] {
				n := l.nodes[s.at]
				led[n.First] = true
				high, has := l.bound(s.at)
				for _, e := range node.Active(n, high, has) {
					led[e.Ptr] = true
				}
			}
		}
		for _, s := range chain {
			if !led[s.at] && level < api.MaxLevel {
				list = append(list, debt{level + 1, s.low, s.at})
			}
		}
	}
	return list
}

// fills leaves so many blocks of the nodes' class.
func (l *land) fills(room int) {
	for l.slab.Room(3) > room {
		l.block(3)
	}
	l.lasts()
}

// of is a parent of what is owed.
func (d debt) of(x *site.Site, client int) *parent.Parent {
	return parent.New(x, client, d.level, d.low, d.child)
}

// ended does a parent's steps up to the last one, within as many as there may be: how many, and its error.
func ended(t *testing.T, p *parent.Parent, x *site.Site) (int, api.Errno) {
	for n := range 20000 {
		if p.Left() {
			t.Fatal("something is left, and it is not done")
		}
		was := x.Mem().Stats()
		through, e := p.Step()
		if d := done(x.Mem(), was); x.Mem().Size() > 0 && d.Loads+d.Stores+d.Flushes+d.Fences > 1 {
			t.Fatalf("step %d: %v", n, d)
		}
		if through {
			return n + 1, e
		}
		if e != api.OK {
			t.Fatal("an error, and it is not done:", e)
		}
	}
	t.Fatal("not done")
	return 0, 0
}

// stays holds a parent that is over: steps answer the same, and do nothing.
func stays(t *testing.T, p *parent.Parent, x *site.Site, code api.Errno) {
	t.Helper()
	m := x.Mem()
	was, stats, locks, room, left := m.Copy(), m.Stats(), x.Locks().Copy(), x.Slab().Room(3), p.Left()
	for range 3 {
		if through, e := p.Step(); !through || e != code {
			t.Fatalf("a step behind the last one: %v, %d, not %d", through, e, code)
		}
	}
	if !m.Same(was) || m.Stats() != stats || !x.Locks().Same(locks) || x.Slab().Room(3) != room || p.Left() != left {
		t.Fatal("a step behind the last one does something")
	}
}

// bound is the high bound of a node that was laid, and has it one.
func (l *land) bound(at api.Addr) (uint64, bool) {
	next := l.nodes[at].Next
	return l.nodes[next].Low, next != 0
}

// keys are those next to all bounds, and entries, of the arena, and the outermost ones.
func (l *land) keys() []uint64 {
	keys := []uint64{0, 1, 1 << 63, math.MaxUint64 - 1, math.MaxUint64}
	for at, n := range l.nodes {
		keys = append(keys, n.Low-1, n.Low, n.Low+1)
		high, has := l.bound(at)
		for _, e := range node.Active(n, high, has) {
			keys = append(keys, e.Key-1, e.Key, e.Key+1)
		}
	}
	slices.Sort(keys)
	return slices.Compact(keys)
}

// done is how many primitives of each kind were done since.
func done(m *pmem.Mem, since api.Stats) api.Stats {
	s := m.Stats()
	return api.Stats{Loads: s.Loads - since.Loads, Stores: s.Stores - since.Stores, Flushes: s.Flushes - since.Flushes, Fences: s.Fences - since.Fences}
}

// cut is a node as a snapshot tells it: what stands behind the first pointer 0 is 0.
func cut(n api.Node) api.Node {
	for p := node.Len(n) + 1; p < api.Fan; p++ {
		n.Keys[p], n.Ptrs[p] = 0, 0
	}
	return n
}

// seen is the node that stands at an address; its words are not loaded, so that nothing is counted.
func seen(t *testing.T, image []byte, at api.Addr) api.Node {
	var w [24]uint64
	for k := range w {
		w[k] = wordAt(t, image, at+api.Addr(8*k))
	}
	n, e := node.Of(w)
	if e != api.OK {
		t.Fatal("no node at", at)
	}
	return n
}

// wordAt is the word that stands at an address.
func wordAt(t *testing.T, image []byte, at api.Addr) uint64 {
	w, e := word.Get(image, int(at))
	if e != api.OK {
		t.Fatal("no word at", at)
	}
	return w
}
