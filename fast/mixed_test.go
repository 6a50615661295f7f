package fast_test

import (
	"slices"
	"testing"

	"levee/api"
	"levee/fast"
	"levee/node"
)

// chance is a row of numbers that looks as if it had no order.
type chance uint64

// word is the next number.
func (c *chance) word() uint64 {
	*c = *c*6364136223846793005 + 1442695040888963407
	return uint64(*c) ^ uint64(*c)>>29
}

// below is one of the numbers below n.
func (c *chance) below(n int) int {
	return int(c.word() >> 20 % uint64(n))
}

// node is one of so many entries, by every third key from 6 on; what stands behind its end is anything.
func (c *chance) node(count int) api.Node {
	n := api.Node{Level: c.below(16), Low: uint64(c.below(4)), Next: api.Addr(c.below(3) * 64), Count: c.word(), First: base}
	for p := range 8 {
		n.Keys[p], n.Ptrs[p] = uint64(6+3*p), api.Addr(2112+64*p)
		if p >= count {
			n.Keys[p], n.Ptrs[p] = uint64(c.below(40)), api.Addr(c.below(40)*64+64)
		}
	}
	if count < 8 {
		n.Ptrs[count] = 0
	}
	return n
}

// tornNode is a node of so many entries, of which one is not valid: as within a shift, or a key of any kind.
func (c *chance) tornNode(count, p int) api.Node {
	n := c.node(count)
	if n = torn(n, p); c.below(2) == 0 {
		n.Keys[p] = c.word()
	}
	return n
}

// told is a change as the chapter's words tell it: by the node's words, and where each one stands.
type told struct {
	n      api.Node
	stores []api.Put
}

// tell is a change, of which the first store is told.
func tell(n api.Node) *told {
	d := &told{n: n}
	return d.put(24, n.Count+1)
}

// put tells a store, so far behind the base.
func (d *told) put(at int, word uint64) *told {
	d.stores = append(d.stores, api.Put{At: base + api.Addr(at), Word: word})
	return d
}

// end tells the last store.
func (d *told) end() []api.Put {
	return d.put(24, d.n.Count+2).stores
}

// len is how many entries there are.
func (d *told) len() int {
	if i := slices.Index(d.n.Ptrs[:], 0); i >= 0 {
		return i
	}
	return 8
}

// ahead is the pointer ahead of a place.
func (d *told) ahead(p int) uint64 {
	return uint64(append([]api.Addr{d.n.First}, d.n.Ptrs[:]...)[p])
}

// insert tells an Insert at a place.
func (d *told) insert(p int, key uint64, ptr api.Addr) []api.Put {
	n := d.len()
	if n+1 < 8 {
		d.put(64+16*(n+1)+8, 0)
	}
	for i := n; i >= p+1; i-- {
		d.put(64+16*i+8, uint64(d.n.Ptrs[i-1])).put(64+16*i, d.n.Keys[i-1])
	}
	return d.put(64+16*p+8, d.ahead(p)).put(64+16*p, key).put(64+16*p+8, uint64(ptr)).end()
}

// delete tells a Delete at a place.
func (d *told) delete(p int) []api.Put {
	return d.put(64+16*p+8, d.ahead(p)).repair(p)
}

// repair tells a Repair of a place.
func (d *told) repair(p int) []api.Put {
	n := d.len()
	for i := p; i <= n-2; i++ {
		d.put(64+16*i, d.n.Keys[i+1]).put(64+16*i+8, uint64(d.n.Ptrs[i+1]))
	}
	return d.put(64+16*(n-1)+8, 0).end()
}

// change is a change that was told, and what it is to bring about.
type change struct {
	what   string
	n      api.Node
	stores []api.Put
	effect int         // which store, counted from 1 on
	after  []api.Entry // the valid entries from there on
}

// holds says that all that P9.3 says of a change is so.
func (c change) holds(t *testing.T) {
	t.Helper()
	before := node.Valid(c.n)
	for k := range len(c.stores) + 1 {
		n, e := fast.Apply(base, c.n, c.stores[:k]...)
		if e != api.OK || !node.May(n, 0, false) {
			t.Fatalf("%s of %v behind %v: %v, %d", c.what, c.n, c.stores[:k], n, e)
		}
		want := before
		if k >= c.effect {
			want = c.after
		}
		if !slices.Equal(node.Valid(n), want) {
			t.Fatalf("%s of %v behind %v: %v, not %v", c.what, c.n, c.stores[:k], node.Valid(n), want)
		}
	}
	all, _ := fast.Apply(base, c.n, c.stores...)
	if node.Invalid(all) >= 0 || all.Count != c.n.Count+2 || all.Level != c.n.Level || all.Low != c.n.Low || all.First != c.n.First {
		t.Fatalf("%s of %v: %v", c.what, c.n, all)
	}
	c.neverBack(t)
	c.oneWay(t)
}

// neverBack says that no word comes back to what it was.
func (c change) neverBack(t *testing.T) {
	t.Helper()
	was := map[api.Addr][]uint64{}
	for i, w := range node.Words(c.n) {
		was[base+api.Addr(8*i)] = []uint64{w}
	}
	for _, s := range c.stores {
		l := was[s.At]
		if l[len(l)-1] != s.Word {
			if slices.Contains(l, s.Word) {
				t.Fatalf("%s of %v: %v comes back", c.what, c.n, s)
			}
			was[s.At] = append(l, s.Word)
		}
	}
}

// oneWay says that the stores to places rise, or fall: of Insert they fall.
func (c change) oneWay(t *testing.T) {
	t.Helper()
	var places []int
	for _, s := range c.stores {
		if s.At >= base+64 {
			places = append(places, int(s.At-base)/16)
		}
	}
	if c.what == "Insert" {
		slices.Reverse(places)
	}
	if !slices.IsSorted(places) {
		t.Fatalf("%s of %v: the places of %v", c.what, c.n, c.stores)
	}
}

// P9.1, P9.3 (Insert): of each number of entries, at each place, each key that comes there.
func TestEachInsert(t *testing.T) {
	c := chance(1)
	for count := range 8 {
		for p := range count + 1 {
			for range 30 {
				n, key := c.node(count), uint64(5+3*p-c.below(2))
				ptr := api.Addr(c.below(30)+1) * 8
				d := tell(n)
				got, e := fast.Insert(base, n, key, ptr)
				one(t, "Insert", d.insert(p, key, ptr), got, e)
				after := slices.Insert(node.Valid(n), p, api.Entry{Key: key, Ptr: ptr})
				change{"Insert", n, got, len(got) - 1, after}.holds(t)
				l, e := fast.Insert(base, c.node(8), key, ptr)
				none(t, "Insert into a full one", api.ErrFull, l, e)
			}
		}
	}
}

// P9.1, P9.3 (Delete, Swap, Cut): of each number of entries, each one.
func TestEachEntry(t *testing.T) {
	c := chance(2)
	for count := range 9 {
		for p := range count {
			for range 30 {
				n := c.node(count)
				had := node.Valid(n)
				got, e := fast.Delete(base, n, had[p].Key)
				one(t, "Delete", tell(n).delete(p), got, e)
				change{"Delete", n, got, 2, slices.Delete(slices.Clone(had), p, p+1)}.holds(t)

				ptr := api.Addr(c.below(30)+1) * 8
				got, e = fast.Swap(base, n, had[p].Key, ptr)
				one(t, "Swap", tell(n).put(64+16*p+8, uint64(ptr)).end(), got, e)
				after := slices.Clone(had)
				after[p].Ptr = ptr
				change{"Swap", n, got, 2, after}.holds(t)

				got, e = fast.Cut(base, n, had[p].Key-uint64(c.below(3)))
				one(t, "Cut", tell(n).put(64+16*p+8, 0).end(), got, e)
				change{"Cut", n, got, 2, had[:p]}.holds(t)
			}
		}
	}
}

// P9.1, P9.3 (Repair, Link): of each number of entries, each one that is not valid; each node.
func TestEachRepair(t *testing.T) {
	c := chance(3)
	for count := range 9 {
		for p := range count {
			for range 30 {
				n := c.tornNode(count, p)
				got, e := fast.Repair(base, n)
				one(t, "Repair", tell(n).repair(p), got, e)
				change{"Repair", n, got, 0, node.Valid(n)}.holds(t)
			}
		}
		for range 30 {
			n := c.node(count)
			next := c.word()
			got, e := fast.Link(base, n, api.Addr(next))
			one(t, "Link", tell(n).put(16, next).end(), got, e)
			change{"Link", n, got, 2, node.Valid(n)}.holds(t)
		}
	}
}

// P9.1, P9.3: wherever a change stops, a Repair, if there is something to be repaired, brings the valid entries back whole.
func TestStoppedAndRepaired(t *testing.T) {
	c := chance(4)
	for count := range 8 {
		for range 100 {
			n := c.node(count)
			p := c.below(count + 1)
			got, _ := fast.Insert(base, n, uint64(5+3*p), 8)
			if c.below(2) == 0 && count > 0 {
				got, _ = fast.Delete(base, n, n.Keys[c.below(count)])
			}
			n, _ = fast.Apply(base, n, got[:c.below(len(got)+1)]...)
			l, e := fast.Repair(base, n)
			if (e == api.OK) != (node.Invalid(n) >= 0) || e != api.OK && e != api.ErrState {
				t.Fatalf("Repair of %v: %v, %d", n, l, e)
			}
			if e == api.OK {
				change{"Repair", n, l, 0, node.Valid(n)}.holds(t)
			}
		}
	}
}

// refusals is what the chapter's words say of a change's errors, in their order: as far as base and node go, of a pointer, and beyond.
func refusals(n api.Node, repair, pointer bool, ptr api.Addr) api.Errno {
	l := append([]api.Addr{n.First}, n.Ptrs[:node.Len(n)]...)
	switch {
	case !node.May(n, 0, false), pointer && (ptr == 0 || slices.Contains(l, ptr)):
		return api.ErrArg
	case (node.Invalid(n) < 0) == repair:
		return api.ErrState
	}
	return api.OK
}

// P9.1: the errors of any nodes, keys, pointers and bounds, in their order.
func TestErrorsInOrder(t *testing.T) {
	c := chance(5)
	met := map[string]map[api.Errno]int{}
	for range 60000 {
		n := c.node(c.below(9))
		if c.below(3) > 0 && n.Ptrs[0] != 0 {
			n = c.tornNode(max(node.Len(n), 1), c.below(max(node.Len(n), 1)))
		}
		if c.below(8) == 0 {
			n.Low = uint64(c.below(30))
		}
		if c.below(20) == 0 {
			n.First = 0
		}
		key, ptr := uint64(c.below(34)), api.Addr(c.below(12))*64+1856
		if c.below(20) == 0 {
			ptr = []api.Addr{0, base}[c.below(2)]
		}
		for what, got := range answers(t, n, key, ptr) {
			want := wanted(n, what, key, ptr)
			if got != want {
				t.Fatalf("%s %d=%d of %v: %d, not %d", what, key, ptr, n, got, want)
			}
			if met[what] == nil {
				met[what] = map[api.Errno]int{}
			}
			met[what][got]++
		}
	}
	for what, l := range map[string][]api.Errno{
		"Insert": {api.OK, api.ErrArg, api.ErrState, api.ErrFull},
		"Delete": {api.OK, api.ErrArg, api.ErrState, api.ErrNone},
		"Repair": {api.OK, api.ErrArg, api.ErrState},
		"Swap":   {api.OK, api.ErrArg, api.ErrState, api.ErrNone},
		"Cut":    {api.OK, api.ErrArg, api.ErrState, api.ErrNone},
		"Link":   {api.OK, api.ErrArg, api.ErrState},
	} {
		for _, e := range l {
			if met[what][e] < 20 {
				t.Errorf("%s was answered %d only %d times", what, e, met[what][e])
			}
		}
	}
}

// answers are the errors of all six changes.
func answers(t *testing.T, n api.Node, key uint64, ptr api.Addr) map[string]api.Errno {
	t.Helper()
	m := map[string]api.Errno{}
	note := func(what string, l []api.Put, e api.Errno) {
		if m[what] = e; (e == api.OK) != (len(l) > 2) || e != api.OK && l != nil {
			t.Fatalf("%s %d=%d of %v: %v, %d", what, key, ptr, n, l, e)
		}
	}
	l, e := fast.Insert(base, n, key, ptr)
	note("Insert", l, e)
	l, e = fast.Delete(base, n, key)
	note("Delete", l, e)
	l, e = fast.Repair(base, n)
	note("Repair", l, e)
	l, e = fast.Swap(base, n, key, ptr)
	note("Swap", l, e)
	l, e = fast.Cut(base, n, key)
	note("Cut", l, e)
	l, e = fast.Link(base, n, ptr)
	note("Link", l, e)
	return m
}

// wanted is which error a change is to be answered.
func wanted(n api.Node, what string, key uint64, ptr api.Addr) api.Errno {
	if e := refusals(n, what == "Repair", what == "Insert" || what == "Swap", ptr); e != api.OK {
		return e
	}
	_, there := node.Find(n, key)
	most := -1
	for p := range node.Len(n) {
		most = max(most, int(n.Keys[p]))
	}
	switch {
	case what == "Insert" && (there || key < n.Low || n.Level > 0 && key == n.Low):
		return api.ErrArg
	case what == "Insert" && node.Len(n) == 8:
		return api.ErrFull
	case (what == "Delete" || what == "Swap") && !there, what == "Cut" && most < int(key):
		return api.ErrNone
	}
	return api.OK
}
