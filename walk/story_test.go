package walk_test

import (
	"testing"

	"levee/api"
	"levee/fast"
	"levee/geo"
	"levee/node"
	"levee/pmem"
	"levee/site"
	"levee/super"
	"levee/walk"
)

// writer is the client whose deeds a story's are.
const writer = 63

// deed is a primitive of the writer.
type deed func(m *pmem.Mem)

// story is what a writer does to an arena, primitive by primitive, as runs of changes, and how the memory was ahead of each, and behind the last one, if nobody else was there.
type story struct {
	*land
	forNodes  []api.Addr // blocks for nodes that nothing leads to as yet
	forValues []api.Addr // likewise, for values
	deeds     []deed
	were      []*pmem.Mem
	has       []map[uint64]api.Addr // what the leaves had each time
	sure      []int                 // behind how many deeds the last fence was, each time
}

// told is a story of a leaf that becomes two, and then three, of a root that comes above them, of keys that come and go, and of a parent that is owed to the end.
func told(t *testing.T) *story {
	t.Helper()
	s := &story{land: bare(t, 4)}
	for range 10 {
		s.forNodes = append(s.forNodes, s.block(3))
		s.forValues = append(s.forValues, s.block(1), s.block(1))
	}
	a := s.begin()
	b, low := s.split(a)
	root := s.grow(a, low, b)
	for _, key := range []uint64{55, 61, 75, 85} {
		s.insert(b, key, taken(&s.forValues))
	}
	s.remove(a, 20)
	s.insert(a, 15, taken(&s.forValues))
	c, low := s.split(b)
	s.insert(root, low, c)
	for _, key := range []uint64{35, 36, 37, 38} {
		s.insert(a, key, taken(&s.forValues))
	}
	s.split(a)
	s.remove(b, 55)
	return s
}

// taken takes a block off.
func taken(l *[]api.Addr) api.Addr {
	a := (*l)[0]
	*l = (*l)[1:]
	return a
}

// begin lays a leaf of eight keys, which is the root, and lasts.
func (s *story) begin() api.Addr {
	at, n := taken(&s.forNodes), api.Node{}
	n.First = at
	for p := range api.Fan {
		n.Keys[p], n.Ptrs[p] = uint64(10+10*p), taken(&s.forValues)
	}
	s.lay(at, n)
	s.root(at)
	s.lasts()
	s.note()
	return at
}

// note keeps how all is.
func (s *story) note() {
	sure := len(s.deeds)
	if len(s.mem.Lines()) > 0 {
		sure = s.sure[len(s.sure)-1]
	}
	s.were = append(s.were, s.mem.Copy())
	s.has = append(s.has, entries(s.t, s.mem))
	s.sure = append(s.sure, sure)
}

// do does a deed.
func (s *story) do(d deed) {
	d(s.mem)
	s.deeds = append(s.deeds, d)
	s.note()
}

// run makes stores last, one line behind the other.
func (s *story) run(l []api.Put, e api.Errno) {
	s.t.Helper()
	if e != api.OK {
		s.t.Fatal("a change:", e)
	}
	for i, p := range l {
		s.do(func(m *pmem.Mem) { m.Store(p.At, p.Word) })
		if i+1 == len(l) || geo.Line(l[i+1].At) != geo.Line(p.At) {
			s.do(func(m *pmem.Mem) { m.Flush(writer, p.At) })
			s.do(func(m *pmem.Mem) { m.Fence(writer) })
		}
	}
}

// made writes a new node.
func (s *story) made(n api.Node) api.Addr {
	s.t.Helper()
	at := taken(&s.forNodes)
	if n.First == 0 {
		n.First = at
	}
	var l []api.Put
	for k, w := range node.Words(n) {
		l = append(l, api.Put{At: at + api.Addr(8*k), Word: w})
	}
	s.run(l, api.OK)
	return at
}

func (s *story) insert(at api.Addr, key uint64, ptr api.Addr) {
	s.t.Helper()
	l, e := fast.Insert(at, seen(s.t, s.mem, at), key, ptr)
	s.run(l, e)
}

func (s *story) remove(at api.Addr, key uint64) {
	s.t.Helper()
	l, e := fast.Delete(at, seen(s.t, s.mem, at), key)
	s.run(l, e)
}

// split lets a leaf of eight become two: where the new one is, and its Low.
func (s *story) split(at api.Addr) (api.Addr, uint64) {
	s.t.Helper()
	n := seen(s.t, s.mem, at)
	half := api.Node{Low: n.Keys[4], Next: n.Next}
	copy(half.Keys[:], n.Keys[4:])
	copy(half.Ptrs[:], n.Ptrs[4:])
	to := s.made(half)
	l, e := fast.Link(at, n, to)
	s.run(l, e)
	l, e = fast.Cut(at, seen(s.t, s.mem, at), half.Low)
	s.run(l, e)
	return to, half.Low
}

// grow lets the arena have a root above the one that it has.
func (s *story) grow(root api.Addr, low uint64, child api.Addr) api.Addr {
	s.t.Helper()
	n := api.Node{Level: 1, First: root}
	n.Keys[0], n.Ptrs[0] = low, child
	at := s.made(n)
	s.run([]api.Put{{At: super.RootAt(), Word: uint64(at)}}, api.OK)
	return at
}

// went does deeds of a story from one on, so many, to a memory, and is which one comes then.
func (s *story) went(m *pmem.Mem, from, n int) int {
	to := min(from+n, len(s.deeds))
	for _, d := range s.deeds[from:to] {
		d(m)
	}
	return to
}

// siteOf is a site of a memory.
func (s *story) siteOf(m *pmem.Mem) *site.Site {
	s.t.Helper()
	x, e := site.New(m, s.slab, api.MaxClients)
	if e != api.OK {
		s.t.Fatal(e)
	}
	return x
}

// look is the node that stands at an address, and does one?
func look(m *pmem.Mem, at api.Addr) (api.Node, bool) {
	var w [24]uint64
	for k := range w {
		v, e := m.Load(at + api.Addr(8*k))
		if e != api.OK {
			return api.Node{}, false
		}
		w[k] = v
	}
	n, e := node.Of(w)
	return n, e == api.OK
}

// seen is the node that stands at an address.
func seen(t *testing.T, m *pmem.Mem, at api.Addr) api.Node {
	t.Helper()
	n, ok := look(m, at)
	if !ok {
		t.Fatal("no node at", at)
	}
	return n
}

// leftmost is the first node of each level, from the root's down.
func leftmost(t *testing.T, m *pmem.Mem) []api.Addr {
	t.Helper()
	at, e := m.Load(super.RootAt())
	if e != api.OK {
		t.Fatal(e)
	}
	l := []api.Addr{api.Addr(at)}
	for {
		n := seen(t, m, l[len(l)-1])
		if n.Level == 0 {
			return l
		}
		l = append(l, n.First)
	}
}

// entries are all that leaves have, by the chain of them.
func entries(t *testing.T, m *pmem.Mem) map[uint64]api.Addr {
	t.Helper()
	l := leftmost(t, m)
	has := map[uint64]api.Addr{}
	for at := l[len(l)-1]; at != 0; {
		n := seen(t, m, at)
		high := uint64(0)
		if n.Next != 0 {
			high = seen(t, m, n.Next).Low
		}
		for _, e := range node.Active(n, high, n.Next != 0) {
			has[e.Key] = e.Ptr
		}
		at = n.Next
	}
	return has
}

// within says whether a walk that is done is where it may be, as the memory was at one moment: at a node of that level, as it stood, the key in its range.
func within(m *pmem.Mem, w *walk.Walk, key uint64, level int) bool {
	at, got, _ := w.At()
	high, has := w.High()
	n, ok := look(m, at)
	if !ok || cut(n) != got || n.Level != level || n.Low > key || has != (n.Next != 0) {
		return false
	}
	if !has {
		return true
	}
	next, ok := look(m, n.Next)
	return ok && next.Low == high && key < high
}
