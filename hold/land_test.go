package hold_test

import (
	"math"
	"slices"
	"testing"

	"levee/api"
	"levee/geo"
	"levee/hold"
	"levee/node"
	"levee/pmem"
	"levee/site"
	"levee/slab"
	"levee/super"
	"levee/word"
)

// dice is a row of numbers that look like chance, the same each time.
type dice uint64

func (d *dice) roll(n int) int {
	*d = *d*6364136223846793005 + 1442695040888963407
	return int(uint64(*d)>>33) % n
}

// spot is a node of a chain, or a child of one: where it is, and its Low.
type spot struct {
	at  api.Addr
	low uint64
}

// land is an arena that is laid for a test: its levels' chains, from the leaves on up, each from the left, and what is known of each node.
type land struct {
	t        *testing.T
	mem      *pmem.Mem
	slab     *slab.Slab
	levels   [][]spot
	nodes    map[api.Addr]api.Node
	children map[api.Addr][]spot // First, and the active entries
}

// bare is an arena without nodes.
func bare(t *testing.T, slabs int) *land {
	t.Helper()
	image := make([]byte, geo.Size(slabs))
	m, e := pmem.Of(image)
	s, f := slab.Of(image)
	if e != api.OK || f != api.OK {
		t.Fatal(e, f)
	}
	return &land{t: t, mem: m, slab: s, nodes: map[api.Addr]api.Node{}, children: map[api.Addr][]spot{}}
}

// block is a new one, published.
func (l *land) block(class int) api.Addr {
	l.t.Helper()
	a, e := l.slab.Reserve(class)
	if e != api.OK {
		l.t.Fatal("a block of the class", class, e)
	}
	turn, e := l.slab.Publish(l.mem, api.System, a)
	if e != api.OK {
		l.t.Fatal(e)
	}
	if _, _, e := site.Whole(l.mem, turn.Step, 20); e != api.OK {
		l.t.Fatal(e)
	}
	return a
}

// store stores a word, which is pending then.
func (l *land) store(at api.Addr, w uint64) {
	l.t.Helper()
	if e := l.mem.Store(at, w); e != api.OK {
		l.t.Fatalf("a store to %d: %d", at, e)
	}
}

// lay stores a node's words.
func (l *land) lay(at api.Addr, n api.Node) {
	l.t.Helper()
	for k, w := range node.Words(n) {
		l.store(at+api.Addr(8*k), w)
	}
	l.nodes[at] = n
}

// root lets the arena have that one.
func (l *land) root(at api.Addr) {
	l.t.Helper()
	s, e := super.New(l.slab.Slabs(), at)
	if e != api.OK {
		l.t.Fatal(e)
	}
	for k, w := range super.Words(s) {
		l.store(api.Addr(8*k), w)
	}
}

// lasts lets all last that is pending.
func (l *land) lasts() {
	l.t.Helper()
	for _, a := range l.mem.Lines() {
		if _, e := l.mem.Evict(a, math.MaxInt); e != api.OK {
			l.t.Fatal(e)
		}
	}
}

// site is one of a memory like the arena's, that goes on apart.
func (l *land) site() *site.Site {
	l.t.Helper()
	x, e := site.New(l.mem.Copy(), l.slab, api.MaxClients)
	if e != api.OK {
		l.t.Fatal(e)
	}
	return x
}

// chain lays a level: the nodes of these entries, to the children of which the first one is First.
func (l *land) chain(d *dice, level int, groups [][]spot, flaws bool) {
	l.t.Helper()
	var spots []spot
	for _, g := range groups {
		spots = append(spots, spot{l.block(3), g[0].low})
	}
	for i, g := range groups {
		var next api.Addr
		high := uint64(math.MaxUint64)
		if i+1 < len(groups) {
			next, high = spots[i+1].at, spots[i+1].low
		}
		at, first := spots[i].at, g[0].at
		if level == 0 {
			first = at
		}
		n := api.Node{Level: level, Low: g[0].low, Next: next, Count: uint64(d.roll(9)), First: first}
		for p, s := range g[1:] {
			n.Keys[p], n.Ptrs[p] = s.low, s.at
		}
		l.children[at] = g
		if flaws {
			n = flawed(d, n, high)
		}
		if !node.May(n, high, next != 0) {
			l.t.Fatalf("a node that may not be: %v, %d", n, high)
		}
		l.lay(at, n)
	}
	l.levels = append(l.levels, spots)
}

// flawed is a node with what a crash may have left of a change: an entry that is not valid, stale ones, and words behind the first pointer 0.
func flawed(d *dice, n api.Node, high uint64) api.Node {
	length := node.Len(n)
	if n.Next != 0 && d.roll(2) == 0 {
		for k := range d.roll(api.Fan - length + 1) {
			if key := high + uint64(3*k); key >= high && length < api.Fan {
				n.Keys[length], n.Ptrs[length] = key, api.Addr(128+64*k)
				length++
			}
		}
	}
	if length < api.Fan && d.roll(2) == 0 {
		p := d.roll(length + 1)
		copy(n.Keys[p+1:length+1], n.Keys[p:length])
		copy(n.Ptrs[p+1:length+1], n.Ptrs[p:length])
		n.Ptrs[p] = n.First
		if p > 0 {
			n.Ptrs[p] = n.Ptrs[p-1]
		}
		n.Keys[p] = uint64(d.roll(2)) * uint64(d.roll(1000)) // whatever stood there
		length++
	}
	for p := length + 1; p < api.Fan; p++ {
		n.Keys[p], n.Ptrs[p] = uint64(d.roll(99)), api.Addr(64*d.roll(9))
	}
	return n
}

// leaves are the groups of a level of so many leaves, whose Lows rise by chance; First of each has no meaning.
func (l *land) leaves(d *dice, n int) [][]spot {
	l.t.Helper()
	var groups [][]spot
	low := uint64(0)
	for range n {
		g := []spot{{low: low}}
		key := low + uint64(d.roll(3))
		for range d.roll(5) {
			g = append(g, spot{l.block(1), key})
			key += uint64(1 + d.roll(3))
		}
		groups = append(groups, g)
		low = key + uint64(1+d.roll(4))
	}
	return groups
}

// above are the groups of a level above one, of so many children each at most; to some that are not the first one nothing leads, as where a parent is owed.
func above(d *dice, below []spot, most int) [][]spot {
	groups := [][]spot{{below[0]}}
	room := d.roll(most)
	for _, s := range below[1:] {
		switch {
		case d.roll(4) == 0:
		case room == 0:
			groups = append(groups, []spot{s})
			room = d.roll(most)
		default:
			last := len(groups) - 1
			groups[last] = append(groups[last], s)
			room--
		}
	}
	return groups
}

// grown is an arena of so many leaves, and levels as chance has it; its root may have a Next.
func grown(t *testing.T, seed int, flaws bool) *land {
	t.Helper()
	d := dice(seed)
	l := bare(t, api.MaxSlabs)
	l.chain(&d, 0, l.leaves(&d, 1+d.roll(40)), flaws)
	for level := 1; level <= api.MaxLevel; level++ {
		below := l.levels[level-1]
		if d.roll(6) == 0 || len(below) == 1 && d.roll(2) == 0 {
			break
		}
		l.chain(&d, level, above(&d, below, 1+api.Fan), flaws)
	}
	l.root(l.levels[len(l.levels)-1][0].at)
	return l
}

// tower is an arena of each level that there may be, each of which has several nodes.
func tower(t *testing.T, flaws bool) *land {
	t.Helper()
	d := dice(5)
	l := bare(t, api.MaxSlabs)
	l.chain(&d, 0, l.leaves(&d, 24), flaws)
	for level := 1; level <= api.MaxLevel; level++ {
		of := 1
		if level%5 == 0 {
			of = 2
		}
		l.chain(&d, level, slices.Collect(slices.Chunk(l.levels[level-1], of)), flaws)
	}
	l.root(l.levels[api.MaxLevel][0].at)
	return l
}

// where is the node of a level in whose range a key is, and its high bound.
func (l *land) where(level int, key uint64) (spot, uint64, bool) {
	found := 0
	for i, s := range l.levels[level] {
		if s.low <= key {
			found = i
		}
	}
	if found+1 < len(l.levels[level]) {
		return l.levels[level][found], l.levels[level][found+1].low, true
	}
	return l.levels[level][found], 0, false
}

// keys are those next to all bounds of the arena, and the outermost ones.
func (l *land) keys() []uint64 {
	keys := []uint64{0, 1, 1 << 32, 1 << 63, math.MaxUint64 - 1, math.MaxUint64}
	for _, chain := range l.levels {
		for _, s := range chain[1:] {
			keys = append(keys, s.low-1, s.low, s.low+1)
		}
	}
	slices.Sort(keys)
	return slices.Compact(keys)
}

// cut is a node as a snapshot tells it: what stands behind the first pointer 0 is 0.
func cut(n api.Node) api.Node {
	for p := node.Len(n) + 1; p < api.Fan; p++ {
		n.Keys[p], n.Ptrs[p] = 0, 0
	}
	return n
}

// tells holds what a hold tells of the node that it has.
func tells(t *testing.T, h *hold.Hold, at api.Addr, n api.Node, e api.Errno, high uint64, has bool) {
	t.Helper()
	if a, got, code := h.At(); a != at || got != n || code != e {
		t.Fatalf("At: %d, %v, %d, not %d, %v, %d", a, got, code, at, n, e)
	}
	if bound, ok := h.High(); bound != high || ok != has {
		t.Fatalf("High: %d, %v, not %d, %v", bound, ok, high, has)
	}
}

// locks holds which locks a client has, and for which one it waits, 0 if for none.
func locks(t *testing.T, x *site.Site, client int, waits api.Addr, held ...api.Addr) {
	t.Helper()
	if l := x.Locks().Held(client); !slices.Equal(l, held) {
		t.Fatalf("the client %d has the locks %v, not %v", client, l, held)
	}
	if id, ok := x.Locks().Wants(client); id != waits || ok != (waits != 0) {
		t.Fatalf("the client %d waits for %d, %v, not %d", client, id, ok, waits)
	}
}

// stays holds a hold that is over: steps answer the same, and do nothing.
func stays(t *testing.T, h *hold.Hold, x *site.Site, code api.Errno) {
	t.Helper()
	m := x.Mem()
	was, stats, locks := m.Copy(), m.Stats(), x.Locks().Copy()
	at, n, e := h.At()
	high, bound := h.High()
	for range 3 {
		if done, e := h.Step(); !done || e != code {
			t.Fatalf("a step behind the last one: %v, %d, not %d", done, e, code)
		}
	}
	if !m.Same(was) || m.Stats() != stats || !x.Locks().Same(locks) {
		t.Fatal("a step behind the last one does something")
	}
	tells(t, h, at, n, e, high, bound)
}

// done is how many primitives of each kind were done since.
func done(m *pmem.Mem, since api.Stats) api.Stats {
	s := m.Stats()
	return api.Stats{Loads: s.Loads - since.Loads, Stores: s.Stores - since.Stores, Flushes: s.Flushes - since.Flushes, Fences: s.Fences - since.Fences}
}

// ended does a hold's steps up to the last one, at most so many: how many, and its error.
func ended(t *testing.T, h *hold.Hold, m *pmem.Mem, most int) (int, api.Errno) {
	t.Helper()
	for n := range most {
		was := m.Stats()
		through, e := h.Step()
		if d := done(m, was); m.Size() > 0 && d.Loads+d.Stores+d.Flushes+d.Fences > 1 {
			t.Fatalf("step %d: %v", n, d)
		}
		if through {
			return n + 1, e
		}
		if e != api.OK {
			t.Fatal("an error, and it is not done:", e)
		}
	}
	t.Fatal("not done within", most)
	return 0, 0
}

// seen is the node that stands at an address; its words are not loaded, so that nothing is counted.
func seen(t *testing.T, image []byte, at api.Addr) api.Node {
	t.Helper()
	var w [24]uint64
	for k := range w {
		var e api.Errno
		if w[k], e = word.Get(image, int(at)+8*k); e != api.OK {
			t.Fatal("no words at", at)
		}
	}
	n, e := node.Of(w)
	if e != api.OK {
		t.Fatal("no node at", at)
	}
	return n
}

// uncounted is a node but for its Count, and for what nobody looks at.
func uncounted(n api.Node) api.Node {
	n = cut(n)
	if p := node.Len(n); p < api.Fan {
		n.Keys[p] = 0
	}
	n.Count = 0
	return n
}

// active are the active entries of a node that was laid.
func (l *land) active(at api.Addr) []api.Entry {
	var list []api.Entry
	for _, s := range l.children[at][1:] {
		list = append(list, api.Entry{Key: s.low, Ptr: s.at})
	}
	return list
}

// bound is the high bound of a node that was laid, and has it one.
func (l *land) bound(at api.Addr) (uint64, bool) {
	next := l.nodes[at].Next
	return l.nodes[next].Low, next != 0
}

// stands holds that in some bytes a node that was laid may be, and is what readers made of it: its entries, what they lead to, and where it is.
func (l *land) stands(image []byte, at api.Addr) {
	l.t.Helper()
	n, was := seen(l.t, image, at), l.nodes[at]
	high, has := l.bound(at)
	if !node.May(n, high, has) {
		l.t.Fatalf("at %d is a node that may not be: %v", at, n)
	}
	if n.Level != was.Level || n.Low != was.Low || n.Next != was.Next || n.First != was.First || !slices.Equal(node.Active(n, high, has), l.active(at)) {
		l.t.Fatalf("at %d is %v, and was %v", at, n, was)
	}
}

// stand holds that all nodes stand.
func (l *land) stand(image []byte) {
	l.t.Helper()
	for at := range l.nodes {
		l.stands(image, at)
	}
}

// mends is how many changes a node needs to be whole.
func (l *land) mends(at api.Addr) int {
	n, mends := l.nodes[at], 0
	if node.Invalid(n) >= 0 {
		mends++
	}
	high, has := l.bound(at)
	if len(node.Active(n, high, has)) < len(node.Valid(n)) {
		mends++
	}
	return mends
}

// owned holds that a hold that is done has the node that it is to have, whole: nobody else has its lock, and all that it is has lasted.
func (l *land) owned(h *hold.Hold, x *site.Site, client int, at api.Addr) {
	l.t.Helper()
	view, was := x.Mem().View(), l.nodes[at]
	n := cut(seen(l.t, view, at))
	high, bound := l.bound(at)
	tells(l.t, h, at, n, api.OK, high, bound)
	l.stands(view, at)
	if node.Len(n) != len(l.active(at)) || n.Count != was.Count+2*uint64(l.mends(at)) {
		l.t.Fatalf("at %d is %v, of %v", at, n, was)
	}
	locks(l.t, x, client, 0, at)
}

// wordAt is the word that stands at an address.
func wordAt(t *testing.T, image []byte, at api.Addr) uint64 {
	t.Helper()
	w, e := word.Get(image, int(at))
	if e != api.OK {
		t.Fatal("no word at", at)
	}
	return w
}
