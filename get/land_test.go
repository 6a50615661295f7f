package get_test

import (
	"math"
	"slices"
	"strings"
	"testing"

	"levee/api"
	"levee/geo"
	"levee/get"
	"levee/node"
	"levee/pmem"
	"levee/site"
	"levee/slab"
	"levee/super"
	"levee/value"
)

// dice is a row of numbers that look like chance, the same each time.
type dice uint64

func (d *dice) roll(n int) int {
	*d = *d*6364136223846793005 + 1442695040888963407
	return int(uint64(*d)>>33) % n
}

// text is a value of some length, the lengths next to a word's and a class' bounds often.
func (d *dice) text() string {
	length := []int{0, 1, 7, 8, 9, 55, 56, 57, 64, 119, 120, d.roll(121)}[d.roll(12)]
	b := make([]byte, length)
	for i := range b {
		b[i] = byte(d.roll(256))
	}
	return string(b)
}

// spot is a node of a chain, or where one leads: where it is, and its Low, or its key.
type spot struct {
	at  api.Addr
	low uint64
}

// land is an arena that is laid for a test: its levels' chains, from the leaves on up, each from the left, and what it has.
type land struct {
	t      *testing.T
	mem    *pmem.Mem
	slab   *slab.Slab
	levels [][]spot
	has    map[uint64]string
}

// bare is an arena without nodes.
func bare(t *testing.T, slabs int) *land {
	t.Helper()
	image := make([]byte, geo.Size(slabs))
	m, e := pmem.Of(image)
	s, f := slab.Of(image)
	if e != api.OK || f != api.OK {
		t.Fatal(e, f)
	}
	return &land{t: t, mem: m, slab: s, has: map[uint64]string{}}
}

// block is a new one, published.
func (l *land) block(class int) api.Addr {
	l.t.Helper()
	a, e := l.slab.Reserve(class)
	if e != api.OK {
		l.t.Fatal("a block of the class", class, e)
	}
	turn, e := l.slab.Publish(l.mem, api.System, a)
	if e != api.OK {
		l.t.Fatal(e)
	}
	if _, _, e := site.Whole(l.mem, turn.Step, 20); e != api.OK {
		l.t.Fatal(e)
	}
	return a
}

// store stores a word, which is pending then.
func (l *land) store(at api.Addr, w uint64) {
	l.t.Helper()
	if e := l.mem.Store(at, w); e != api.OK {
		l.t.Fatalf("a store to %d: %d", at, e)
	}
}

// words stores some, one behind the other.
func (l *land) words(at api.Addr, words ...uint64) {
	l.t.Helper()
	for k, w := range words {
		l.store(at+api.Addr(8*k), w)
	}
}

// lay stores a node's words.
func (l *land) lay(at api.Addr, n api.Node) {
	l.t.Helper()
	w := node.Words(n)
	l.words(at, w[:]...)
}

// value lays one into a new block.
func (l *land) value(s string) api.Addr {
	l.t.Helper()
	class, e := value.Class(s)
	if e != api.OK {
		l.t.Fatal(e)
	}
	at := l.block(class)
	puts, e := value.Puts(at, s)
	if e != api.OK {
		l.t.Fatal(e)
	}
	for _, p := range puts {
		l.store(p.At, p.Word)
	}
	return at
}

// root lets the arena have that one.
func (l *land) root(at api.Addr) {
	l.t.Helper()
	s, e := super.New(l.slab.Slabs(), at)
	if e != api.OK {
		l.t.Fatal(e)
	}
	w := super.Words(s)
	l.words(0, w[:]...)
}

// lasts lets all last that is pending.
func (l *land) lasts() {
	l.t.Helper()
	for _, a := range l.mem.Lines() {
		if _, e := l.mem.Evict(a, math.MaxInt); e != api.OK {
			l.t.Fatal(e)
		}
	}
}

// site is one of a memory like the arena's, that goes on apart.
func (l *land) site() *site.Site {
	l.t.Helper()
	return siteOf(l.t, l.mem.Copy(), l.slab)
}

func siteOf(t *testing.T, m *pmem.Mem, s *slab.Slab) *site.Site {
	t.Helper()
	x, e := site.New(m, s, api.MaxClients)
	if e != api.OK {
		t.Fatal(e)
	}
	return x
}

// chain lays a level: the nodes of these entries, to the children of which the first one is First.
func (l *land) chain(d *dice, level int, groups [][]spot, flaws bool) {
	l.t.Helper()
	var spots []spot
	for _, g := range groups {
		spots = append(spots, spot{l.block(3), g[0].low})
	}
	for i, g := range groups {
		var next api.Addr
		high := uint64(math.MaxUint64)
		if i+1 < len(groups) {
			next, high = spots[i+1].at, spots[i+1].low
		}
		at, first := spots[i].at, g[0].at
		if level == 0 {
			first = at
		}
		n := api.Node{Level: level, Low: g[0].low, Next: next, Count: uint64(d.roll(9)), First: first}
		for p, s := range g[1:] {
			n.Keys[p], n.Ptrs[p] = s.low, s.at
		}
		if flaws {
			n = flawed(d, n, high)
		}
		if !node.May(n, high, next != 0) {
			l.t.Fatalf("a node that may not be: %v, %d", n, high)
		}
		l.lay(at, n)
	}
	l.levels = append(l.levels, spots)
}

// flawed is a node with what a crash may have left of a change: an entry that is not valid, stale ones, and words behind the first pointer 0.
func flawed(d *dice, n api.Node, high uint64) api.Node {
	length := node.Len(n)
	if n.Next != 0 && d.roll(2) == 0 {
		for k := range d.roll(api.Fan - length + 1) {
			if key := high + uint64(2*k); key >= high && length < api.Fan {
				n.Keys[length], n.Ptrs[length] = key, api.Addr(128+64*k)
				length++
			}
		}
	}
	if length < api.Fan && d.roll(2) == 0 {
		p := d.roll(length + 1)
		copy(n.Keys[p+1:length+1], n.Keys[p:length])
		copy(n.Ptrs[p+1:length+1], n.Ptrs[p:length])
		n.Ptrs[p] = n.First
		if p > 0 {
			n.Ptrs[p] = n.Ptrs[p-1]
		}
		if d.roll(2) == 0 {
			n.Keys[p] += uint64(d.roll(3)) // a key that is nowhere, or that is in the place behind
		}
		length++
	}
	for p := length + 1; p < api.Fan; p++ {
		n.Keys[p], n.Ptrs[p] = n.Low+uint64(d.roll(6)), api.Addr(64*d.roll(9))
	}
	return n
}

// leaves are the groups of a level of so many leaves, whose Lows rise by chance; First of each has no meaning.
func (l *land) leaves(d *dice, n int) [][]spot {
	l.t.Helper()
	var groups [][]spot
	low := uint64(0)
	for range n {
		g := []spot{{low: low}}
		key := low + uint64(d.roll(3))
		for range d.roll(5) {
			s := d.text()
			g = append(g, spot{l.value(s), key})
			l.has[key] = s
			key += uint64(1 + d.roll(3))
		}
		groups = append(groups, g)
		low = key + uint64(1+d.roll(4))
	}
	return groups
}

// above are the groups of a level above one, of so many children each at most; to some that are not the first one nothing leads, as where a parent is owed.
func above(d *dice, below []spot, most int) [][]spot {
	groups := [][]spot{{below[0]}}
	room := d.roll(most)
	for _, s := range below[1:] {
		switch {
		case d.roll(4) == 0:
		case room == 0:
			groups = append(groups, []spot{s})
			room = d.roll(most)
		default:
			last := len(groups) - 1
			groups[last] = append(groups[last], s)
			room--
		}
	}
	return groups
}

// grown is an arena of so many leaves, and levels as chance has it; its root may have a Next.
func grown(t *testing.T, seed int, flaws bool) *land {
	t.Helper()
	d := dice(seed)
	l := bare(t, api.MaxSlabs)
	l.chain(&d, 0, l.leaves(&d, 1+d.roll(30)), flaws)
	for level := 1; level <= api.MaxLevel; level++ {
		below := l.levels[level-1]
		if d.roll(6) == 0 || len(below) == 1 && d.roll(2) == 0 {
			break
		}
		l.chain(&d, level, above(&d, below, 1+api.Fan), flaws)
	}
	l.root(l.levels[len(l.levels)-1][0].at)
	return l
}

// nodes is how many there are.
func (l *land) nodes() int {
	n := 0
	for _, chain := range l.levels {
		n += len(chain)
	}
	return n
}

// leaf is in which one a key is, or would be.
func (l *land) leaf(key uint64) api.Addr {
	at := l.levels[0][0].at
	for _, s := range l.levels[0] {
		if s.low <= key {
			at = s.at
		}
	}
	return at
}

// keys are those that the arena has, those next to them and to all bounds, and the outermost ones.
func (l *land) keys() []uint64 {
	keys := []uint64{0, 1, 1 << 32, 1 << 63, math.MaxUint64 - 1, math.MaxUint64}
	for key := range l.has {
		keys = append(keys, key-1, key, key+1)
	}
	for _, chain := range l.levels {
		for _, s := range chain {
			keys = append(keys, s.low-1, s.low, s.low+1)
		}
	}
	slices.Sort(keys)
	return slices.Compact(keys)
}

// answer is what a map answers to a get.
func answer(has map[uint64]string, key uint64) api.Response {
	s, ok := has[key]
	if !ok {
		return api.Response{Code: api.ErrNone}
	}
	return api.Response{Value: s}
}

// same says whether two responses to gets are.
func same(a, b api.Response) bool {
	return a.Code == b.Code && a.Value == b.Value && a.Pairs == nil && b.Pairs == nil
}

// tells holds what a get tells.
func tells(t *testing.T, g *get.Get, r api.Response, tries int) {
	t.Helper()
	if is := g.Response(); !same(is, r) {
		t.Fatalf("Response: %d, %q, %v, not %d, %q", is.Code, is.Value, is.Pairs, r.Code, r.Value)
	}
	if n := g.Tries(); n != tries {
		t.Fatalf("Tries: %d, not %d", n, tries)
	}
}

// stays holds a get that is done: steps answer the same, and do nothing.
func stays(t *testing.T, g *get.Get, m *pmem.Mem, code api.Errno) {
	t.Helper()
	was, stats, r, tries := m.Copy(), m.Stats(), g.Response(), g.Tries()
	for range 4 {
		if done, e := g.Step(); !done || e != code {
			t.Fatalf("a step behind the last one: %v, %d, not %d", done, e, code)
		}
	}
	if m.Size() > 0 && (!m.Same(was) || m.Stats() != stats) {
		t.Fatal("a step behind the last one does something")
	}
	tells(t, g, r, tries)
}

// done is how many primitives of each kind were done since.
func done(m *pmem.Mem, since api.Stats) api.Stats {
	s := m.Stats()
	return api.Stats{Loads: s.Loads - since.Loads, Stores: s.Stores - since.Stores, Flushes: s.Flushes - since.Flushes, Fences: s.Fences - since.Fences}
}

// ended does a get's steps up to the last one, at most so many: how many, and its error.
func ended(t *testing.T, g *get.Get, m *pmem.Mem, most int) (int, api.Errno) {
	t.Helper()
	tries := g.Tries()
	for n := range most {
		was := m.Stats()
		through, e := g.Step()
		if d := done(m, was); m.Size() > 0 && (d.Loads+d.Flushes+d.Fences > 1 || d.Stores > 0) {
			t.Fatalf("step %d: %v", n, d)
		}
		if through {
			return n + 1, e
		}
		if e != api.OK {
			t.Fatal("an error, and it is not done:", e)
		}
		if g.Tries() < tries || g.Tries() > tries+1 {
			t.Fatalf("Tries: %d behind %d", g.Tries(), tries)
		}
		tries = g.Tries()
		tells(t, g, api.Response{}, tries)
	}
	t.Fatal("not done within", most)
	return 0, 0
}

// long is a value of so many bytes.
func long(s string, n int) string {
	return strings.Repeat(s, n)[:n]
}
