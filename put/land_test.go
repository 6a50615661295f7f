package put_test

import (
	"maps"
	"math"
	"slices"
	"testing"

	"levee/api"
	"levee/geo"
	"levee/node"
	"levee/pmem"
	"levee/put"
	"levee/site"
	"levee/slab"
	"levee/super"
	"levee/value"
	"levee/word"
)

// dice is a row of numbers that look like chance, the same each time.
type dice uint64

func (d *dice) roll(n int) int {
	*d = *d*6364136223846793005 + 1442695040888963407
	return int(uint64(*d)>>33) % n
}

// text is a value of some length, the lengths next to a word's and a class' bounds often.
func (d *dice) text() string {
	length := []int{0, 1, 7, 8, 9, 55, 56, 57, 64, 119, 120, d.roll(121)}[d.roll(12)]
	b := make([]byte, length)
	for i := range b {
		b[i] = byte(d.roll(256))
	}
	return string(b)
}

// spot is a node of a chain, or where one leads: where it is, and its Low, or its key.
type spot struct {
	at  api.Addr
	low uint64
}

// land is an arena that is laid for a test: its levels' chains, from the leaves on up, each from the left, what each node was, and the map.
type land struct {
	t      *testing.T
	mem    *pmem.Mem
	slab   *slab.Slab
	levels [][]spot
	nodes  map[api.Addr]api.Node
	has    map[uint64]string
}

// bare is an arena without nodes.
func bare(t *testing.T, slabs int) *land {
	t.Helper()
	image := make([]byte, geo.Size(slabs))
	m, e := pmem.Of(image)
	s, f := slab.Of(image)
	if e != api.OK || f != api.OK {
		t.Fatal(e, f)
	}
	return &land{t: t, mem: m, slab: s, nodes: map[api.Addr]api.Node{}, has: map[uint64]string{}}
}

// block is a new one, published.
func (l *land) block(class int) api.Addr {
	l.t.Helper()
	a, e := l.slab.Reserve(class)
	if e != api.OK {
		l.t.Fatal("a block of the class", class, e)
	}
	turn, e := l.slab.Publish(l.mem, api.System, a)
	if e != api.OK {
		l.t.Fatal(e)
	}
	if _, _, e := site.Whole(l.mem, turn.Step, 20); e != api.OK {
		l.t.Fatal(e)
	}
	return a
}

// store stores a word, which is pending then.
func (l *land) store(at api.Addr, w uint64) {
	l.t.Helper()
	if e := l.mem.Store(at, w); e != api.OK {
		l.t.Fatalf("a store to %d: %d", at, e)
	}
}

// lay stores a node's words.
func (l *land) lay(at api.Addr, n api.Node) {
	l.t.Helper()
	for k, w := range node.Words(n) {
		l.store(at+api.Addr(8*k), w)
	}
	l.nodes[at] = n
}

// value lays one into a new block.
func (l *land) value(s string) api.Addr {
	l.t.Helper()
	class, e := value.Class(s)
	if e != api.OK {
		l.t.Fatal(e)
	}
	at := l.block(class)
	puts, e := value.Puts(at, s)
	if e != api.OK {
		l.t.Fatal(e)
	}
	for _, p := range puts {
		l.store(p.At, p.Word)
	}
	return at
}

// root lets the arena have that one.
func (l *land) root(at api.Addr) {
	l.t.Helper()
	s, e := super.New(l.slab.Slabs(), at)
	if e != api.OK {
		l.t.Fatal(e)
	}
	for k, w := range super.Words(s) {
		l.store(api.Addr(8*k), w)
	}
}

// lasts lets all last that is pending.
func (l *land) lasts() {
	l.t.Helper()
	for _, a := range l.mem.Lines() {
		if _, e := l.mem.Evict(a, math.MaxInt); e != api.OK {
			l.t.Fatal(e)
		}
	}
}

// site is one of a memory like the arena's, and of blocks as its headers say, that goes on apart.
func (l *land) site() *site.Site {
	l.t.Helper()
	return siteOf(l.t, l.mem.Copy(), api.MaxClients)
}

// siteOf is a site of a memory, of the blocks that its image has.
func siteOf(t *testing.T, m *pmem.Mem, clients int) *site.Site {
	t.Helper()
	s, e := slab.Of(m.Image())
	if e != api.OK {
		t.Fatal("an image is refused:", e)
	}
	x, e := site.New(m, s, clients)
	if e != api.OK {
		t.Fatal(e)
	}
	return x
}

// empty is an arena of an empty leaf.
func empty(t *testing.T, slabs int) *land {
	t.Helper()
	l := bare(t, slabs)
	leaf := l.block(3)
	l.lay(leaf, api.Node{First: leaf})
	l.levels = [][]spot{{{leaf, 0}}}
	l.root(leaf)
	l.lasts()
	return l
}

// chain lays a level: the nodes of these entries, to the children of which the first one is First.
func (l *land) chain(d *dice, level int, groups [][]spot, flaws bool) {
	l.t.Helper()
	var spots []spot
	for _, g := range groups {
		spots = append(spots, spot{l.block(3), g[0].low})
	}
	for i, g := range groups {
		var next api.Addr
		high := uint64(math.MaxUint64)
		if i+1 < len(groups) {
			next, high = spots[i+1].at, spots[i+1].low
		}
		at, first := spots[i].at, g[0].at
		if level == 0 {
			first = at
		}
		n := api.Node{Level: level, Low: g[0].low, Next: next, Count: uint64(d.roll(9)), First: first}
		for p, s := range g[1:] {
			n.Keys[p], n.Ptrs[p] = s.low, s.at
		}
		if flaws {
			n = flawed(d, n, high)
		}
		if !node.May(n, high, next != 0) {
			l.t.Fatalf("a node that may not be: %v, %d", n, high)
		}
		l.lay(at, n)
	}
	l.levels = append(l.levels, spots)
}

// flawed is a node, if it has not all the entries that there may be, with what a crash may have left of a change: an entry that is not valid, a stale one, and words behind the first pointer 0.
func flawed(d *dice, n api.Node, high uint64) api.Node {
	length := node.Len(n)
	if n.Next != 0 && length < api.Fan && d.roll(2) == 0 {
		n.Keys[length], n.Ptrs[length] = high+uint64(d.roll(2)), 128
		length++
	}
	if length < api.Fan && d.roll(2) == 0 {
		p := d.roll(length + 1)
		copy(n.Keys[p+1:length+1], n.Keys[p:length])
		copy(n.Ptrs[p+1:length+1], n.Ptrs[p:length])
		n.Ptrs[p] = n.First
		if p > 0 {
			n.Ptrs[p] = n.Ptrs[p-1]
		}
		length++
	}
	for p := length + 1; p < api.Fan; p++ {
		n.Keys[p], n.Ptrs[p] = uint64(d.roll(99)), api.Addr(64*d.roll(9))
	}
	return n
}

// leaves are the groups of a level of so many leaves, whose Lows rise by chance, many of them with all the entries that there may be; First of each has no meaning.
func (l *land) leaves(d *dice, n int) [][]spot {
	l.t.Helper()
	var groups [][]spot
	low := uint64(0)
	for range n {
		g := []spot{{low: low}}
		key := low + uint64(d.roll(3))
		entries := api.Fan
		if d.roll(2) == 0 {
			entries = d.roll(api.Fan)
		}
		for range entries {
			l.has[key] = d.text()
			g = append(g, spot{l.value(l.has[key]), key})
			key += uint64(1 + d.roll(3))
		}
		groups = append(groups, g)
		low = key + uint64(1+d.roll(4))
	}
	return groups
}

// above are the groups of a level above one, many of them of all the children that there may be, if not all have few; to some that are not the first one nothing leads, as where a parent is owed.
func above(d *dice, below []spot, few bool) [][]spot {
	groups := [][]spot{{below[0]}}
	room := func() int {
		if few || d.roll(3) == 0 {
			return d.roll(2)
		}
		return api.Fan
	}
	left := room()
	for _, s := range below[1:] {
		switch {
		case d.roll(6) == 0:
		case left == 0:
			groups = append(groups, []spot{s})
			left = room()
		default:
			last := len(groups) - 1
			groups[last] = append(groups[last], s)
			left--
		}
	}
	return groups
}

// grown is an arena of so many leaves, and levels as chance has it; its root may have a Next.
func grown(t *testing.T, seed int, flaws bool) *land {
	t.Helper()
	d := dice(seed)
	l := bare(t, 44)
	l.chain(&d, 0, l.leaves(&d, 1+d.roll(25)), flaws)
	for level := 1; level <= api.MaxLevel; level++ {
		below := l.levels[level-1]
		if d.roll(9) == 0 || len(below) == 1 {
			break
		}
		l.chain(&d, level, above(&d, below, level%2 == seed%2), flaws)
	}
	l.root(l.levels[len(l.levels)-1][0].at)
	l.lasts()
	return l
}

// row is an arena of leaves of these Lows and keys, each with its high bound, of which the first one is the root.
func row(t *testing.T, slabs int, groups ...[]uint64) *land {
	t.Helper()
	var d dice
	l := bare(t, slabs)
	var list [][]spot
	for _, g := range groups {
		spots := []spot{{low: g[0]}}
		for _, key := range g[1:] {
			l.has[key] = "the value of " + word.Hex(key)
			spots = append(spots, spot{l.value(l.has[key]), key})
		}
		list = append(list, spots)
	}
	l.chain(&d, 0, list, false)
	l.root(l.levels[0][0].at)
	l.lasts()
	return l
}

// fills leaves so many blocks of a class.
func (l *land) fills(class, room int) {
	l.t.Helper()
	for l.slab.Room(class) > room {
		l.block(class)
	}
	l.lasts()
}

// bound is the high bound of a node that was laid, and has it one.
func (l *land) bound(at api.Addr) (uint64, bool) {
	next := l.nodes[at].Next
	return l.nodes[next].Low, next != 0
}

// keys are those next to all bounds, and entries, of the arena's leaves, and the outermost ones.
func (l *land) keys() []uint64 {
	keys := []uint64{0, 1, 1 << 63, math.MaxUint64 - 1, math.MaxUint64}
	for _, s := range l.levels[0] {
		keys = append(keys, s.low-1, s.low, s.low+1)
	}
	for key := range l.has {
		keys = append(keys, key-1, key, key+1)
	}
	slices.Sort(keys)
	return slices.Compact(keys)
}

// leaf is in which one a key is, or would be.
func (l *land) leaf(key uint64) spot {
	is := l.levels[0][0]
	for _, s := range l.levels[0] {
		if s.low <= key {
			is = s
		}
	}
	return is
}

// with is a map with a key's value.
func with(has map[uint64]string, key uint64, v string) map[uint64]string {
	is := maps.Clone(has)
	is[key] = v
	return is
}

// most is how many steps a put may take.
const most = 50000

// ended does a put's steps up to the last one, within as many as there may be: how many, and its error.
func ended(t *testing.T, p *put.Put, x *site.Site) (int, api.Errno) {
	t.Helper()
	for n := range most {
		tells(t, p, api.ErrState)
		was := x.Mem().Stats()
		through, e := p.Step()
		if d := done(x.Mem(), was); x.Mem().Size() > 0 && d.Loads+d.Stores+d.Flushes+d.Fences > 1 {
			t.Fatalf("step %d: %v", n, d)
		}
		if through {
			return n + 1, e
		}
		if e != api.OK {
			t.Fatal("an error, and it is not done:", e)
		}
	}
	t.Fatal("not done")
	return 0, 0
}

// tells holds what a put tells as its answer.
func tells(t *testing.T, p *put.Put, code api.Errno) {
	t.Helper()
	if r := p.Response(); r.Code != code || r.Value != "" || r.Pairs != nil {
		t.Fatalf("Response: %v, not %d", r, code)
	}
}

// stays holds a put that is over: steps answer the same, and do nothing.
func stays(t *testing.T, p *put.Put, x *site.Site, e, code api.Errno) {
	t.Helper()
	m := x.Mem()
	was, stats, locks, blocks := m.Copy(), m.Stats(), x.Locks().Copy(), rooms(x)
	for range 3 {
		if through, f := p.Step(); !through || f != e {
			t.Fatalf("a step behind the last one: %v, %d, not %d", through, f, e)
		}
		tells(t, p, code)
	}
	if !m.Same(was) || m.Stats() != stats || !x.Locks().Same(locks) || rooms(x) != blocks {
		t.Fatal("a step behind the last one does something")
	}
}

// rooms is how many blocks of each class can be reserved, and how many are in use.
func rooms(x *site.Site) [4]int {
	return [4]int{len(x.Slab().Used()), x.Slab().Room(1), x.Slab().Room(2), x.Slab().Room(3)}
}

// done is how many primitives of each kind were done since.
func done(m *pmem.Mem, since api.Stats) api.Stats {
	s := m.Stats()
	return api.Stats{Loads: s.Loads - since.Loads, Stores: s.Stores - since.Stores, Flushes: s.Flushes - since.Flushes, Fences: s.Fences - since.Fences}
}

// seen is the node that stands at an address; its words are not loaded, so that nothing is counted.
func seen(t *testing.T, image []byte, at api.Addr) api.Node {
	var w [24]uint64
	for k := range w {
		w[k] = wordAt(t, image, at+api.Addr(8*k))
	}
	n, e := node.Of(w)
	if e != api.OK {
		t.Fatal("no node at", at)
	}
	return n
}

// wordAt is the word that stands at an address.
func wordAt(t *testing.T, image []byte, at api.Addr) uint64 {
	w, e := word.Get(image, int(at))
	if e != api.OK {
		t.Fatal("no word at", at)
	}
	return w
}
