package get_test

import (
	"strconv"
	"testing"

	"levee/api"
	"levee/fast"
	"levee/geo"
	"levee/node"
	"levee/pmem"
	"levee/super"
	"levee/value"
)

// writer is the client whose deeds a story's are.
const writer = 63

// story is what a writer does to an arena, primitive by primitive, as runs of changes, and how all was ahead of each, and behind the last one, if nobody else was there.
type story struct {
	*land
	forNodes  []api.Addr          // blocks that nothing leads to as yet
	forValues map[int][]api.Addr  // likewise, by class: the one that was given back last is given out first
	of        map[uint64]api.Addr // where a key's value is
	leaves    []api.Addr          // as they came
	top       api.Addr            // the root above them, if there is one
	named     int                 // how many values were made
	deeds     []deed              // what was done
	counted   []bool              // is it a store to Count or Next of a node?
	were      []*pmem.Mem         // the memory, each time
	had       []map[uint64]string // the map, likewise
	sure      []int               // behind how many deeds all had lasted last, likewise
}

// told is a story of keys that come, go, and are put anew, whose blocks are given out again at once; of leaves that become two; of a root that comes above them; of parents that are owed to the end.
func told(t *testing.T, seed int) *story {
	t.Helper()
	d := dice(seed)
	s := &story{land: bare(t, 10), forValues: map[int][]api.Addr{}, of: map[uint64]api.Addr{}}
	for range 12 {
		s.forNodes = append(s.forNodes, s.block(3))
	}
	for range 20 {
		s.forValues[1] = append(s.forValues[1], s.block(1))
		s.forValues[2] = append(s.forValues[2], s.block(2))
	}
	s.begin()
	for range 45 {
		key := s.key(&d)
		if d.roll(4) > 0 {
			s.put(&d, key)
		} else if s.of[key] != 0 {
			s.remove(key)
		}
	}
	return s
}

// key is some one of a story's.
func (s *story) key(d *dice) uint64 {
	return uint64(10 * d.roll(16))
}

// begin lays a leaf, which is the root, and lasts.
func (s *story) begin() {
	at := s.forNodes[0]
	s.forNodes, s.leaves = s.forNodes[1:], []api.Addr{at}
	s.lay(at, api.Node{First: at})
	s.root(at)
	s.lasts()
	s.note()
}

// note keeps how all is.
func (s *story) note() {
	sure := len(s.deeds)
	if len(s.mem.Lines()) > 0 {
		sure = s.sure[len(s.sure)-1]
	}
	s.were = append(s.were, s.mem.Copy())
	s.had = append(s.had, pairs(s.t, s.mem))
	s.sure = append(s.sure, sure)
}

// do does a deed.
func (s *story) do(counted bool, d deed) {
	d(s.mem)
	s.deeds = append(s.deeds, d)
	s.counted = append(s.counted, counted)
	s.note()
}

// run makes stores last, one line behind the other.
func (s *story) run(l ...api.Put) {
	s.t.Helper()
	for i, p := range l {
		_, isNode := geo.Index(p.At-p.At%api.LineSize, 3)
		word := p.At % api.LineSize
		s.do(isNode && (word == 16 || word == 24), func(m *pmem.Mem) { m.Store(p.At, p.Word) })
		if i+1 == len(l) || geo.Line(l[i+1].At) != geo.Line(p.At) {
			s.do(false, func(m *pmem.Mem) { m.Flush(writer, p.At) })
			s.do(false, func(m *pmem.Mem) { m.Fence(writer) })
		}
	}
}

// changed are the stores of a change of a node, of a key and where it leads.
func changed(t *testing.T, do func(api.Addr, api.Node, uint64, api.Addr) ([]api.Put, api.Errno), at api.Addr, n api.Node, key uint64, ptr api.Addr) []api.Put {
	t.Helper()
	l, e := do(at, n, key, ptr)
	if e != api.OK {
		t.Fatal("a change:", e)
	}
	return l
}

// new is a value that was never there; its words are all unlike those of others, so that no two can be mixed.
func (s *story) new(d *dice) string {
	s.named++
	return long(strconv.Itoa(1000+s.named)+"-", []int{1 + 3*d.roll(18), 58 + d.roll(59)}[d.roll(2)]+4)
}

// leafOf is which leaf a key is in, or goes to.
func (s *story) leafOf(key uint64) api.Addr {
	at, low := s.leaves[0], uint64(0)
	for _, a := range s.leaves {
		if n := seen(s.t, s.mem, a); n.Low <= key && n.Low >= low {
			at, low = a, n.Low
		}
	}
	return at
}

// put lets a key have a new value, as put (19) does it: the value, then the change, then the elder value's block is given back.
func (s *story) put(d *dice, key uint64) {
	s.t.Helper()
	text := s.new(d)
	class, e := value.Class(text)
	if e != api.OK {
		s.t.Fatal(text, e)
	}
	to := taken(s.t, s.forValues, class)
	l, e := value.Puts(to, text)
	if e != api.OK {
		s.t.Fatal(e)
	}
	s.run(l...)
	elder, change := s.of[key], fast.Swap
	if elder == 0 {
		s.split(d, s.leafOf(key))
		change = fast.Insert
	}
	at := s.leafOf(key)
	s.run(changed(s.t, change, at, seen(s.t, s.mem, at), key, to)...)
	s.of[key] = to
	s.free(elder)
}

// taken takes the block of a class off that was given back last.
func taken(t *testing.T, from map[int][]api.Addr, class int) api.Addr {
	t.Helper()
	l := from[class]
	if len(l) == 0 {
		t.Fatal("a story with too few blocks of the class", class)
	}
	from[class] = l[:len(l)-1]
	return l[len(l)-1]
}

// free gives a value's block back.
func (s *story) free(at api.Addr) {
	if at != 0 {
		class := s.slab.Class(geo.Slab(at))
		s.forValues[class] = append(s.forValues[class], at)
	}
}

func (s *story) remove(key uint64) {
	s.t.Helper()
	at := s.leafOf(key)
	l, e := fast.Delete(at, seen(s.t, s.mem, at), key)
	if e != api.OK {
		s.t.Fatal(e)
	}
	s.run(l...)
	s.free(s.of[key])
	delete(s.of, key)
}

// made writes a new node.
func (s *story) made(n api.Node) api.Addr {
	s.t.Helper()
	at := s.forNodes[0]
	s.forNodes = s.forNodes[1:]
	if n.First == 0 {
		n.First = at
	}
	var l []api.Put
	for k, w := range node.Words(n) {
		l = append(l, api.Put{At: at + api.Addr(8*k), Word: w})
	}
	s.run(l...)
	return at
}

// split lets a leaf that is full become two; sometimes no parent is let know of it.
func (s *story) split(d *dice, at api.Addr) {
	s.t.Helper()
	n := seen(s.t, s.mem, at)
	if node.Len(n) < api.Fan {
		return
	}
	upper := api.Node{Low: n.Keys[4], Next: n.Next}
	copy(upper.Keys[:], n.Keys[4:])
	copy(upper.Ptrs[:], n.Ptrs[4:])
	to := s.made(upper)
	l, e := fast.Link(at, n, to)
	if e != api.OK {
		s.t.Fatal(e)
	}
	s.run(l...)
	l, e = fast.Cut(at, seen(s.t, s.mem, at), upper.Low)
	if e != api.OK {
		s.t.Fatal(e)
	}
	s.run(l...)
	s.leaves = append(s.leaves, to)
	switch {
	case s.top == 0:
		s.grow(upper.Low, to)
	case d.roll(2) == 0:
		s.run(changed(s.t, fast.Insert, s.top, seen(s.t, s.mem, s.top), upper.Low, to)...)
	}
}

// grow lets the arena have a root above the first leaf.
func (s *story) grow(low uint64, child api.Addr) {
	s.t.Helper()
	n := api.Node{Level: 1, First: s.leaves[0]}
	n.Keys[0], n.Ptrs[0] = low, child
	s.top = s.made(n)
	s.run(api.Put{At: super.RootAt(), Word: uint64(s.top)})
}

// nodes is how many there are in the end.
func (s *story) nodes() int {
	return len(s.leaves) + 1
}

// went does deeds of a story from one on, so many, to a memory, and is which one comes then.
func (s *story) went(m *pmem.Mem, from, n int) int {
	to := min(from+n, len(s.deeds))
	for _, d := range s.deeds[from:to] {
		d(m)
	}
	return to
}

// changes is how many stores to Count or Next there are within some deeds.
func (s *story) changes(from, to int) int {
	n := 0
	for _, is := range s.counted[from:to] {
		if is {
			n++
		}
	}
	return n
}

// look is the words from an address on.
func look(t *testing.T, m *pmem.Mem, at api.Addr, n int) []uint64 {
	t.Helper()
	var l []uint64
	for k := range n {
		w, e := m.Load(at + api.Addr(8*k))
		if e != api.OK {
			t.Fatal(at, e)
		}
		l = append(l, w)
	}
	return l
}

// seen is the node that stands at an address.
func seen(t *testing.T, m *pmem.Mem, at api.Addr) api.Node {
	t.Helper()
	n, e := node.Of([24]uint64(look(t, m, at, 24)))
	if e != api.OK {
		t.Fatal("no node at", at)
	}
	return n
}

// pairs are all that leaves have, by the chain of them.
func pairs(t *testing.T, m *pmem.Mem) map[uint64]string {
	t.Helper()
	root, e := m.Load(super.RootAt())
	if e != api.OK {
		t.Fatal(e)
	}
	at := api.Addr(root)
	for n := seen(t, m, at); n.Level > 0; n = seen(t, m, at) {
		at = n.First
	}
	has := map[uint64]string{}
	for at != 0 {
		n, high := seen(t, m, at), uint64(0)
		if n.Next != 0 {
			high = seen(t, m, n.Next).Low
		}
		for _, e := range node.Active(n, high, n.Next != 0) {
			has[e.Key] = text(t, m, e.Ptr)
		}
		at = n.Next
	}
	return has
}

// text is the value that stands at an address.
func text(t *testing.T, m *pmem.Mem, at api.Addr) string {
	t.Helper()
	first := look(t, m, at, 1)[0]
	s, e := value.Parse(geo.Class(int(first)), look(t, m, at, value.Words(int(first))))
	if e != api.OK {
		t.Fatal("no value at", at)
	}
	return s
}
