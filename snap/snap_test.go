package snap_test

import (
	"iter"
	"math"
	"slices"
	"testing"

	"levee/api"
	"levee/node"
	"levee/pmem"
	"levee/snap"
)

// Where the tests' node stands, and its neighbours.
const (
	base  = 64
	right = 256
	far   = 448
	size  = 640
)

func memory(t *testing.T, size int) *pmem.Mem {
	t.Helper()
	m, e := pmem.New(size)
	if m == nil || e != api.OK {
		t.Fatalf("a memory of %d bytes: %d", size, e)
	}
	return m
}

func store(t *testing.T, m *pmem.Mem, at api.Addr, w uint64) {
	t.Helper()
	if e := m.Store(at, w); e != api.OK {
		t.Fatalf("a store to %d: %d", at, e)
	}
}

// lay stores a node's words.
func lay(t *testing.T, m *pmem.Mem, at api.Addr, n api.Node) {
	t.Helper()
	for k, w := range node.Words(n) {
		store(t, m, at+api.Addr(8*k), w)
	}
}

// some is a node of so many entries, with a word of its own at each place, also behind them.
func some(entries, level int, next api.Addr) api.Node {
	n := api.Node{Level: level, Low: 3, Next: next, Count: 6, First: base}
	for p := range api.Fan {
		n.Keys[p], n.Ptrs[p] = uint64(10+10*p), api.Addr(10000+64*p)
	}
	if entries < api.Fan {
		n.Ptrs[entries] = 0
	}
	return n
}

// around is a memory with a node, and two more to which its Next may lead.
func around(t *testing.T, n api.Node) *pmem.Mem {
	t.Helper()
	m := memory(t, size)
	lay(t, m, base, n)
	lay(t, m, right, api.Node{Low: 900, Count: 1, First: right})
	lay(t, m, far, api.Node{Low: 700, Count: 2, First: far})
	return m
}

// cut is a node as a snapshot tells it: what stands behind the first pointer 0 is 0.
func cut(n api.Node) api.Node {
	for p := node.Len(n) + 1; p < api.Fan; p++ {
		n.Keys[p], n.Ptrs[p] = 0, 0
	}
	return n
}

// stepper is any machine.
type stepper interface {
	Step() (bool, api.Errno)
}

// stays holds a machine that is over: steps answer the same, and do nothing.
func stays(t *testing.T, x stepper, m *pmem.Mem, code api.Errno) {
	t.Helper()
	was, stats := m.Copy(), m.Stats()
	for range 4 {
		if done, e := x.Step(); !done || e != code {
			t.Fatalf("a step behind the last one: %v, %d, not %d", done, e, code)
		}
	}
	if !m.Same(was) || m.Stats() != stats {
		t.Fatal("a step behind the last one does something")
	}
}

// tells holds what a snapshot tells.
func tells(t *testing.T, s *snap.Snap, n api.Node, e api.Errno, high uint64, has bool) {
	t.Helper()
	if got, code := s.Node(); got != n || code != e {
		t.Fatalf("Node: %v, %d, not %v, %d", got, code, n, e)
	}
	if bound, ok := s.High(); bound != high || ok != has {
		t.Fatalf("High: %d, %v, not %d, %v", bound, ok, high, has)
	}
}

// looked is what a snapshot's step comes to.
type looked struct {
	done bool
	code api.Errno
	node api.Node
	high uint64
	has  bool
}

// words are what a node's words are read as, Count left out.
type words struct {
	level uint64
	node  api.Node
}

// plainly goes over a snapshot's steps by the chapter's words, load by load.
func plainly(m *pmem.Mem, at api.Addr) iter.Seq[looked] {
	type left struct{}
	return func(yield func(looked) bool) {
		defer func() {
			if r := recover(); r != nil && r != (left{}) {
				panic(r)
			}
		}()
		begun := false
		load := func(a api.Addr) uint64 {
			if begun && !yield(looked{code: api.OK}) {
				panic(left{})
			}
			begun = true
			w, e := m.Load(a)
			if e != api.OK {
				yield(looked{done: true, code: e})
				panic(left{})
			}
			return w
		}
		for {
			count := load(at + 24)
			first, second := wordsOf(load, at), wordsOf(load, at)
			l := looked{done: true, has: second.node.Next != 0}
			if l.has {
				l.high = load(second.node.Next + 8)
			}
			if again := load(at + 24); again != count || first != second {
				continue
			}
			if second.level < api.NodeMagic || second.level > api.NodeMagic+api.MaxLevel {
				yield(looked{done: true, code: api.ErrBytes})
				return
			}
			l.node = second.node
			l.node.Level, l.node.Count = int(second.level-api.NodeMagic), count
			yield(l)
			return
		}
	}
}

// wordsOf reads a node's words once.
func wordsOf(load func(api.Addr) uint64, at api.Addr) words {
	w := words{level: load(at)}
	w.node.Low = load(at + 8)
	w.node.Next = api.Addr(load(at + 16))
	w.node.First = api.Addr(load(at + 32))
	for p := range w.node.Ptrs {
		w.node.Keys[p] = load(at + 64 + api.Addr(16*p))
		w.node.Ptrs[p] = api.Addr(load(at + 72 + api.Addr(16*p)))
		if w.node.Ptrs[p] == 0 {
			break
		}
	}
	return w
}

// alike holds a snapshot, step by step, against the chapter's words, while ahead of each step (counted from 0) something may be done to the memory: how many steps.
func alike(t *testing.T, m *pmem.Mem, at api.Addr, meanwhile func(step int)) int {
	t.Helper()
	s := snap.New(m, at)
	if s == nil {
		t.Fatal("New: none")
	}
	next, stop := iter.Pull(plainly(m, at))
	defer stop()
	for i := 0; ; i++ {
		meanwhile(i)
		stats := m.Stats()
		done, e := s.Step()
		if loads := m.Stats().Loads - stats.Loads; loads > 1 || m.Stats().Stores != stats.Stores || m.Stats().Flushes != stats.Flushes || m.Stats().Fences != stats.Fences {
			t.Fatalf("step %d: %d loads, %v", i, loads, m.Stats())
		}
		want, ok := next()
		if !ok || done != want.done || e != want.code {
			t.Fatalf("step %d: %v, %d, not %v", i, done, e, want)
		}
		if !done {
			tells(t, s, api.Node{}, api.ErrState, 0, false)
			continue
		}
		tells(t, s, want.node, want.code, want.high, want.has)
		stays(t, s, m, e)
		tells(t, s, want.node, want.code, want.high, want.has)
		return i + 1
	}
}

func nothing(int) {}

// The chapter's example.
func TestExample(t *testing.T) {
	five, nine := api.Entry{Key: 5, Ptr: 2112}, api.Entry{Key: 9, Ptr: 2176}
	n, e := node.Make(base, 0, 0, 0, 0, five, nine)
	if e != api.OK {
		t.Fatal(e)
	}
	m := memory(t, 256)
	lay(t, m, base, n)
	stores := m.Stats().Stores
	s := snap.New(m, base)
	for i := 1; i <= 22; i++ {
		if done, e := s.Step(); done != (i == 22) || e != api.OK || m.Stats() != (api.Stats{Loads: uint64(i), Stores: stores}) {
			t.Fatalf("step %d: %v, %d, %v", i, done, e, m.Stats())
		}
	}
	tells(t, s, n, api.OK, 0, false)
	stays(t, s, m, api.OK)
}

// P11.1: where nobody stores, a snapshot has a step for each word that it reads, and tells the node; what stands behind the first pointer 0 is 0.
func TestNobodyStores(t *testing.T) {
	for entries := range api.Fan + 1 {
		for _, level := range []int{0, 1, api.MaxLevel} {
			for _, next := range []api.Addr{0, right, far} {
				n := some(entries, level, next)
				m := around(t, n)
				steps := 2 + 2*(4+2*min(entries+1, api.Fan))
				if next != 0 {
					steps++
				}
				if got := alike(t, m, base, nothing); got != steps || got > 64 {
					t.Errorf("%d entries, Next %d: %d steps, not %d", entries, next, got, steps)
				}
				s := snap.New(m, base)
				for range steps {
					s.Step()
				}
				tells(t, s, cut(n), api.OK, map[api.Addr]uint64{right: 900, far: 700}[next], next != 0)
			}
		}
	}
}

// P11.1: any words may stand in a node, also in entries that are not valid, and at its ends.
func TestAnyWords(t *testing.T) {
	n := some(api.Fan, 2, 0)
	n.Low, n.Count, n.First = math.MaxUint64, math.MaxUint64, math.MaxUint64
	n.Ptrs[1], n.Ptrs[2], n.Ptrs[7] = n.Ptrs[0], math.MaxUint64, 1
	n.Keys[0], n.Keys[7] = math.MaxUint64, 0
	m := around(t, n)
	s := snap.New(m, base)
	for range alike(t, m, base, nothing) {
		s.Step()
	}
	tells(t, s, n, api.OK, 0, false)
	store(t, m, base+40, 5) // the three words behind First are nobody's
	store(t, m, base+48, math.MaxUint64)
	store(t, m, base+56, 1)
	if steps := alike(t, m, base, nothing); steps != 42 {
		t.Error(steps)
	}
}

// P11.1: a Low of Next that is 0 is a bound, too; so is that of what lies at 0, if Next is not 0.
func TestBounds(t *testing.T) {
	for _, low := range []uint64{0, 1, math.MaxUint64} {
		m := around(t, some(1, 0, right))
		store(t, m, right+8, low)
		s := snap.New(m, base)
		for range alike(t, m, base, nothing) {
			s.Step()
		}
		tells(t, s, cut(some(1, 0, right)), api.OK, low, true)
	}
}

// places are all words that a snapshot may read, and some that it does not.
func places() []api.Addr {
	l := []api.Addr{right, right + 8, far + 8}
	for k := range 24 {
		l = append(l, base+api.Addr(8*k))
	}
	return l
}

// P11.1: whenever one word is stored to, a snapshot goes on as the chapter says.
func TestOneStore(t *testing.T) {
	for _, n := range []api.Node{some(2, 0, 0), some(2, 0, right), some(0, 1, right), some(8, 0, 0)} {
		for _, at := range places() {
			for _, word := range []uint64{0, far, api.NodeMagic + 7} {
				for when := range 45 {
					m := around(t, n)
					alike(t, m, base, func(step int) {
						if step == when {
							store(t, m, at, word)
						}
					})
				}
			}
		}
	}
}

// P11.1: so it does where a word comes to be as it was again.
func TestThereAndBack(t *testing.T) {
	for _, n := range []api.Node{some(2, 0, right), some(0, 3, 0)} {
		for _, at := range places() {
			for when := range 24 {
				for back := when + 1; back < 26; back++ {
					m := around(t, n)
					was, _ := m.Load(at)
					alike(t, m, base, func(step int) {
						if step == when {
							store(t, m, at, far)
						}
						if step == back {
							store(t, m, at, was)
						}
					})
				}
			}
		}
	}
}

// P11.1: as long as somebody stores again and again, a snapshot is not done; then it is.
func TestBegunAnew(t *testing.T) {
	m := around(t, some(2, 0, right))
	steps := alike(t, m, base, func(step int) {
		if step%20 == 10 && step < 1000 {
			store(t, m, base+24, uint64(step))
		}
	})
	if steps < 1000 || steps > 1000+23+64 {
		t.Error(steps)
	}
}

// P11.1: what was told stays so, whatever is stored behind it.
func TestStays(t *testing.T) {
	n := some(3, 0, right)
	m := around(t, n)
	s := snap.New(m, base)
	for done := false; !done; {
		done, _ = s.Step()
	}
	for _, at := range places() {
		store(t, m, at, 1)
		tells(t, s, cut(n), api.OK, 900, true)
		stays(t, s, m, api.OK)
	}
	*m = pmem.Mem{}
	tells(t, s, cut(n), api.OK, 900, true)
	if done, e := s.Step(); !done || e != api.OK {
		t.Error(done, e)
	}
}

// The Errors: no snapshot, a zero one, no memory.
func TestNoSnap(t *testing.T) {
	o := memory(t, 64)
	for _, s := range []*snap.Snap{nil, {}, new(snap.Snap)} {
		tells(t, s, api.Node{}, api.ErrNil, 0, false)
		stays(t, s, o, api.ErrNil)
		tells(t, s, api.Node{}, api.ErrNil, 0, false)
	}
	for _, m := range []*pmem.Mem{nil, {}} {
		for _, at := range []api.Addr{0, 64, 1, math.MaxUint64} {
			s := snap.New(m, at)
			tells(t, s, api.Node{}, api.ErrNil, 0, false)
			stays(t, s, o, api.ErrNil)
			tells(t, s, api.Node{}, api.ErrNil, 0, false)
		}
	}
}

// The Errors: a memory that is made a zero one meanwhile ends a snapshot for good.
func TestMemoryGoes(t *testing.T) {
	for n := range 22 {
		m := around(t, some(2, 0, 0))
		s := snap.New(m, base)
		for range n {
			s.Step()
		}
		kept := *m
		*m = pmem.Mem{}
		tells(t, s, api.Node{}, api.ErrNil, 0, false)
		stays(t, s, m, api.ErrNil)
		*m = kept
		stays(t, s, m, api.ErrNil)
		tells(t, s, api.Node{}, api.ErrNil, 0, false)
	}
}

// The Errors: those of pmem, at the first word that the memory has not; what the words are comes behind that.
func TestOutside(t *testing.T) {
	for _, c := range []struct {
		at    api.Addr
		steps int
	}{
		{size, 1}, {size + 64, 1}, {1 << 40, 1}, {math.MaxUint64 - 63, 1}, {math.MaxUint64 - 15, 1},
		{math.MaxUint64 - 23, 1},                   // its Count's address goes round, to 0, and is outside all the same
		{math.MaxUint64, 1}, {1, 1}, {base + 4, 1}, // no word's
		{size - 64, 6}, {size - 128, 14}, // the first line alone is there; the first two
		{size - 24, 1}, {size - 32, 5}, // Count is not there; First is not
		{size - 128 - 8, 15}, {size - 128 - 16, 16}, // a pointer is not; a key is not
	} {
		for _, level := range []uint64{api.NodeMagic, 5} {
			m := memory(t, size)
			for a := api.Addr(0); a < size; a += 8 {
				store(t, m, a, 64)
			}
			if c.at < size && c.at%8 == 0 {
				store(t, m, c.at, level)
			}
			s := snap.New(m, c.at)
			for i := 1; i < c.steps; i++ {
				if done, e := s.Step(); done || e != api.OK {
					t.Fatalf("at %d, step %d: %v, %d", c.at, i, done, e)
				}
			}
			stays(t, s, m, api.ErrRange)
			tells(t, s, api.Node{}, api.ErrRange, 0, false)
		}
	}
}

// The Errors: so is a Next that leads outside; that its Low's address goes round lets it be nowhere else.
func TestNextOutside(t *testing.T) {
	for _, next := range []api.Addr{1, 4, size - 8, size, size + 64, 1 << 40, math.MaxUint64 - 71, math.MaxUint64 - 7, math.MaxUint64} {
		for _, level := range []uint64{api.NodeMagic, 5} {
			m := around(t, some(2, 0, next))
			store(t, m, base, level)
			s := snap.New(m, base)
			for i := 1; i <= 21; i++ {
				if done, e := s.Step(); done || e != api.OK {
					t.Fatalf("Next %d, step %d: %v, %d", next, i, done, e)
				}
			}
			stays(t, s, m, api.ErrRange)
			tells(t, s, api.Node{}, api.ErrRange, 0, false)
		}
	}
}

// The Errors: words that are no node's are told as such, when all of them are read.
func TestNoNode(t *testing.T) {
	for _, level := range []uint64{0, 1, api.NodeMagic - 1, api.NodeMagic + api.MaxLevel + 1, api.NodeMagic | 1<<63, math.MaxUint64} {
		for _, next := range []api.Addr{0, right} {
			m := around(t, some(2, 0, next))
			store(t, m, base, level)
			alike(t, m, base, nothing)
			s := snap.New(m, base)
			for done := false; !done; {
				done, _ = s.Step()
			}
			stays(t, s, m, api.ErrBytes)
			tells(t, s, api.Node{}, api.ErrBytes, 0, false)
		}
	}
	m := memory(t, 256)
	if steps := alike(t, m, 0, nothing); steps != 14 {
		t.Error(steps)
	}
}

// P11.1: two snapshots have each its own place, also of one node.
func TestApart(t *testing.T) {
	n := some(2, 0, right)
	m := around(t, n)
	x, y := snap.New(m, base), snap.New(m, base)
	for range 23 {
		x.Step()
	}
	tells(t, x, cut(n), api.OK, 900, true)
	tells(t, y, api.Node{}, api.ErrState, 0, false)
	store(t, m, base+8, 2)
	for range 23 {
		y.Step()
	}
	tells(t, x, cut(n), api.OK, 900, true)
	n.Low = 2
	tells(t, y, cut(n), api.OK, 900, true)
}

// same holds what a Still answers, and that it stays so.
func same(t *testing.T, s *snap.Still, m *pmem.Mem, code api.Errno, want bool) {
	t.Helper()
	if s.Same() != want {
		t.Fatalf("Same: %v", !want)
	}
	stays(t, s, m, code)
	if s.Same() != want {
		t.Fatalf("Same behind the last step: %v", !want)
	}
}

// P11.2: Still tells whether Next and Count are as they were, when it is done; it reads each once, and nothing else.
func TestStill(t *testing.T) {
	for _, at := range append(places(), 0) {
		for _, word := range []uint64{0, 5, far, math.MaxUint64} {
			for when := range 4 {
				n := some(2, 0, right)
				m := around(t, n)
				s := snap.NewStill(m, base, n)
				changed := at == base+16 && when == 0 || at == base+24 && when < 2
				done, e := false, api.OK
				steps := 0
				for stats := m.Stats(); !done; steps++ {
					if s.Same() {
						t.Fatal("Same ahead of the last step")
					}
					if steps == when {
						store(t, m, at, word)
						stats.Stores++
					}
					if done, e = s.Step(); e != api.OK || steps > 7 {
						t.Fatal(steps, e)
					}
					stats.Loads++
					if m.Stats() != stats {
						t.Fatal(m.Stats(), stats)
					}
				}
				if steps != 2 {
					t.Fatalf("%d steps", steps)
				}
				same(t, s, m, api.OK, !changed)
				store(t, m, base+16, 3)
				store(t, m, base+24, 3)
				same(t, s, m, api.OK, !changed)
			}
		}
	}
}

// P11.2: of the node that is handed in Next and Count alone count.
func TestStillOfNode(t *testing.T) {
	n := some(2, 0, right)
	m := around(t, n)
	for _, c := range []struct {
		n    api.Node
		same bool
	}{
		{n, true},
		{api.Node{Next: right, Count: 6}, true},
		{api.Node{Level: -1, Low: 8, Next: right, Count: 6, First: 9}, true},
		{api.Node{Next: right, Count: 7}, false},
		{api.Node{Next: right, Count: 5}, false},
		{api.Node{Next: right}, false},
		{api.Node{Next: far, Count: 6}, false},
		{api.Node{Count: 6}, false},
		{api.Node{Next: 6, Count: right}, false},
		{api.Node{}, false},
	} {
		s := snap.NewStill(m, base, c.n)
		s.Step()
		s.Step()
		same(t, s, m, api.OK, c.same)
	}
}

// The Errors, of Still.
func TestStillErrors(t *testing.T) {
	m := memory(t, 64)
	for _, s := range []*snap.Still{nil, {}, snap.NewStill(nil, 0, api.Node{}), snap.NewStill(&pmem.Mem{}, 0, api.Node{}), snap.NewStill(&pmem.Mem{}, 1, api.Node{})} {
		same(t, s, m, api.ErrNil, false)
	}
	for _, at := range []api.Addr{1, 4, 44, 48, 56, 64, 128, 1 << 40, math.MaxUint64 - 63, math.MaxUint64 - 15, math.MaxUint64 - 7, math.MaxUint64} {
		same(t, snap.NewStill(m, at, api.Node{}), m, api.ErrRange, false)
	}
	s := snap.NewStill(m, 40, api.Node{}) // Next is there, Count is not
	if done, e := s.Step(); done || e != api.OK {
		t.Fatal(done, e)
	}
	same(t, s, m, api.ErrRange, false)
	s = snap.NewStill(m, 0, api.Node{})
	s.Step()
	kept := *m
	*m = pmem.Mem{}
	same(t, s, m, api.ErrNil, false)
	*m = kept
	same(t, s, m, api.ErrNil, false)
}

// lasts does a Last, and holds each step against the primitive that the chapter names.
func lasts(t *testing.T, m *pmem.Mem, client int, lines ...api.Addr) {
	t.Helper()
	o, was := m.Copy(), slices.Clone(lines)
	pending := map[api.Addr][]byte{}
	for _, a := range lines {
		line := a / 64 * 64
		pending[line] = m.View()[line : line+64]
	}
	l := snap.NewLast(m, client, lines...)
	if !m.Same(o) || m.Stats() != o.Stats() {
		t.Fatal("NewLast does something")
	}
	for i := range lines {
		lines[i] = 5 // the list is the Last's own
	}
	for i := range len(was) + 1 {
		done, e := l.Step()
		if i < len(was) {
			o.Flush(client, was[i])
		} else {
			o.Fence(client)
		}
		if done != (i == len(was)) || e != api.OK || !m.Same(o) || m.Stats() != o.Stats() {
			t.Fatalf("step %d of %v by %d: %v, %d", i, was, client, done, e)
		}
	}
	image := m.Image()
	for line, b := range pending {
		if !slices.Equal(image[line:line+64], b) {
			t.Fatalf("the line at %d has not lasted behind %v", line, was)
		}
	}
	stays(t, l, m, api.OK)
}

// busy is a memory in which there are stores pending in each line, some of them marked.
func busy(t *testing.T) *pmem.Mem {
	t.Helper()
	m := memory(t, size)
	for a := api.Addr(0); a < size; a += 64 {
		store(t, m, a+8, uint64(a)+1)
		m.Flush(int(a/64)%5, a)
		store(t, m, a+16, 2)
		store(t, m, a+8, 3)
	}
	return m
}

// P11.2: Last flushes each line, one by one, in order, and then there is a fence: what was pending there has lasted.
func TestLast(t *testing.T) {
	for _, lines := range [][]api.Addr{
		{}, {0}, {64}, {size - 64}, {64, 128, 192}, {192, 128, 64}, {0, 0}, {0, 64, 0},
		{8}, {56, 0}, {size - 8, 72, 120}, {0, 64, 128, 192, 256, 320, 384, 448, 512, 576},
	} {
		for _, client := range []int{0, 1, 4, api.System - 1, api.System} {
			lasts(t, busy(t), client, slices.Clone(lines)...)
			lasts(t, memory(t, size), client, slices.Clone(lines)...)
			lasts(t, busy(t), client, snap.Lines(base)...)
		}
	}
}

// P11.2: what is stored meanwhile may be lost; what was pending when it began is not.
func TestLastMeanwhile(t *testing.T) {
	for when := range 5 {
		m := memory(t, size)
		for _, a := range snap.Lines(base) {
			store(t, m, a, 1)
		}
		l := snap.NewLast(m, 0, snap.Lines(base)...)
		for i := range 4 {
			if i == when {
				for _, a := range snap.Lines(base) {
					store(t, m, a, 2)
				}
				m.Evict(base+128, 1)
			}
			l.Step()
		}
		m.Crash()
		for i, a := range snap.Lines(base) {
			want := uint64(1)
			if i >= when {
				want = 2
			}
			if w, _ := m.Load(a); w != want {
				t.Errorf("stores ahead of step %d: %d at %d, not %d", when, w, a, want)
			}
		}
	}
}

// The Errors, of Last: no Last, no memory; then those of Flush, and of Fence, each at its step.
func TestLastErrors(t *testing.T) {
	o := memory(t, 64)
	for _, m := range []*pmem.Mem{nil, {}} {
		for _, client := range []int{0, -1} {
			stays(t, snap.NewLast(m, client), o, api.ErrNil)
			stays(t, snap.NewLast(m, client, 1), o, api.ErrNil)
		}
	}
	stays(t, (*snap.Last)(nil), o, api.ErrNil)
	stays(t, new(snap.Last), o, api.ErrNil)
	for _, client := range []int{-1, math.MinInt, api.System + 1, math.MaxInt} {
		for _, lines := range [][]api.Addr{nil, {0}, {1}, {size}} {
			m := busy(t)
			stays(t, snap.NewLast(m, client, lines...), m, api.ErrArg)
		}
	}
	for _, wrong := range []api.Addr{1, 63, size, size + 64, math.MaxUint64, math.MaxUint64 - 7} {
		for _, ahead := range [][]api.Addr{nil, {0}, {64, 128}} {
			m := busy(t)
			l := snap.NewLast(m, 2, slices.Concat(ahead, []api.Addr{wrong, 192})...)
			was := m.Copy()
			for _, a := range ahead {
				if done, e := l.Step(); done || e != api.OK {
					t.Fatal(done, e)
				}
				was.Flush(2, a)
			}
			if !m.Same(was) {
				t.Fatal("more is done than was to be")
			}
			stays(t, l, m, api.ErrRange)
		}
	}
	for n := range 3 {
		m := memory(t, size)
		l := snap.NewLast(m, 0, 64, 128)
		for range n {
			l.Step()
		}
		kept := *m
		*m = pmem.Mem{}
		stays(t, l, m, api.ErrNil)
		*m = kept
		stays(t, l, m, api.ErrNil)
	}
}

// P11.2: a node's lines; each list is a new one.
func TestLines(t *testing.T) {
	for _, at := range []api.Addr{0, 64, 1088, 1 << 40} {
		l := snap.Lines(at)
		if !slices.Equal(l, []api.Addr{at, at + 64, at + 128}) {
			t.Error(l)
		}
		l[0] = 5
		if snap.Lines(at)[0] != at {
			t.Error("a list is kept")
		}
	}
}
