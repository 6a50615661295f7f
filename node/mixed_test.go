package node_test

import (
	"slices"
	"strconv"
	"testing"

	"levee/api"
	"levee/node"
)

// chance is a row of numbers that looks as if it had no order.
type chance uint64

// word is the next number.
func (c *chance) word() uint64 {
	*c = *c*6364136223846793005 + 1442695040888963407
	return uint64(*c) ^ uint64(*c)>>29
}

// below is one of the numbers below n.
func (c *chance) below(n int) int {
	return int(c.word() >> 20 % uint64(n))
}

// node is any node of keys and pointers below some number.
func (c *chance) node(most int) api.Node {
	n := api.Node{Level: c.below(4) - 1, Low: uint64(c.below(most)), Next: api.Addr(c.word()), Count: c.word(), First: api.Addr(c.below(most))}
	for p := range 8 {
		n.Keys[p], n.Ptrs[p] = uint64(c.below(most)), api.Addr(c.below(most))
	}
	return n
}

// near is a node that may be, but for some small thing, now and then.
func (c *chance) near() api.Node {
	n := api.Node{Level: c.below(3), Low: uint64(c.below(4)), First: 100}
	key := n.Low
	for p := range c.below(9) {
		key += uint64(c.below(4))
		n.Keys[p], n.Ptrs[p] = key, api.Addr(101+p)
	}
	if c.below(2) == 0 {
		p := c.below(8)
		n.Ptrs[p] = api.Addr(c.below(8) + 99)
		n.Keys[c.below(8)] = uint64(c.below(30))
	}
	return n
}

// ahead is the pointer ahead of a place.
func ahead(n api.Node, p int) api.Addr {
	if p == 0 {
		return n.First
	}
	return n.Ptrs[p-1]
}

// told is what the chapter's words say of a node.
type told struct {
	len     int
	places  []int
	invalid []int
}

// tell is what they say.
func tell(n api.Node) told {
	d := told{len: slices.Index(n.Ptrs[:], 0)}
	if d.len < 0 {
		d.len = 8
	}
	for p := range d.len {
		if n.Ptrs[p] != ahead(n, p) {
			d.places = append(d.places, p)
		} else {
			d.invalid = append(d.invalid, p)
		}
	}
	return d
}

// may says whether a node without a bound may be.
func (d told) may(n api.Node) bool {
	ok := n.Level >= 0 && n.Level <= 15 && n.First != 0 && len(d.invalid) <= 1
	for i, p := range d.places {
		ok = ok && n.Keys[p] >= n.Low && n.Ptrs[p] != n.First
		ok = ok && (n.Level <= 0 || n.Keys[p] != n.Low)
		for _, q := range d.places[:i] {
			ok = ok && n.Keys[q] < n.Keys[p] && n.Ptrs[q] != n.Ptrs[p]
		}
	}
	return ok
}

// text is what a node's text is.
func (d told) text(n api.Node) string {
	s := strconv.Itoa(n.Level) + " " + strconv.FormatUint(n.Low, 10) + " " + strconv.FormatUint(uint64(n.Next), 10) + " " + strconv.FormatUint(uint64(n.First), 10)
	for _, p := range d.places {
		s += " " + strconv.FormatUint(n.Keys[p], 10) + "=" + strconv.FormatUint(uint64(n.Ptrs[p]), 10)
	}
	return s
}

// holds says that all that is answered of a node, and of these keys and bounds, is what the chapter's words say.
func holds(t *testing.T, n api.Node, keys int) {
	t.Helper()
	d := tell(n)
	invalid := -1
	if len(d.invalid) > 0 {
		invalid = d.invalid[0]
	}
	if node.Len(n) != d.len || !slices.Equal(node.Places(n), d.places) || node.Invalid(n) != invalid || node.Text(n) != d.text(n) {
		t.Fatalf("of %v: %d, %v, %d, %q", n, node.Len(n), node.Places(n), node.Invalid(n), node.Text(n))
	}
	if may := d.may(n); node.May(n, 0, false) != may {
		t.Fatalf("May of %v: %v", n, !may)
	}
	for key := range uint64(keys) {
		d.holdsOf(t, n, key)
	}
}

// holdsOf says so of one key, or bound.
func (d told) holdsOf(t *testing.T, n api.Node, key uint64) {
	t.Helper()
	find, has, at, child := 0, false, 0, n.First
	var valid, active []api.Entry
	for _, p := range d.places {
		e := api.Entry{Key: n.Keys[p], Ptr: n.Ptrs[p]}
		valid = append(valid, e)
		if e.Key < key {
			active = append(active, e)
		}
		if e.Key <= key {
			at, child = p+1, e.Ptr
		}
		if e.Key == key && !has {
			find, has = p, true
		}
	}
	if p, ok := node.Find(n, key); p != find || ok != has {
		t.Fatalf("Find %d of %v: %d, %v", key, n, p, ok)
	}
	if node.At(n, key) != at || node.Child(n, key) != child {
		t.Fatalf("At %d of %v: %d; Child: %d", key, n, node.At(n, key), node.Child(n, key))
	}
	if !slices.Equal(node.Valid(n), valid) || !slices.Equal(node.Active(n, key, true), active) || !slices.Equal(node.Active(n, key, false), valid) {
		t.Fatalf("of %v: %v, %v, %v", n, node.Valid(n), node.Active(n, key, true), node.Active(n, key, false))
	}
	if may := d.may(n) && key > n.Low; node.May(n, key, true) != may {
		t.Fatalf("May of %v by %d: %v", n, key, !may)
	}
}

// P8.2, P8.3, P8.4, P8.5: each node of three entries and an end, of a leaf and an inner one, of three keys and four pointers.
func TestEachSmall(t *testing.T) {
	each(t, func(heads [3]uint64, words [6]uint64) api.Node {
		n := api.Node{Level: int(heads[0]), Low: heads[1], First: api.Addr(heads[2])}
		for p := range 3 {
			n.Keys[p], n.Ptrs[p] = words[p], api.Addr(words[3+p])
		}
		return n
	})
}

// P8.2, P8.3, P8.4, P8.5: the same at the last three places, behind five that are whole.
func TestEachLast(t *testing.T) {
	each(t, func(heads [3]uint64, words [6]uint64) api.Node {
		n := api.Node{Level: int(heads[0]), Low: heads[1], First: api.Addr(heads[2] + 10), Keys: [8]uint64{3, 4, 5, 6, 7}, Ptrs: [8]api.Addr{5, 6, 7, 8, 3}}
		for p := range 3 {
			n.Keys[5+p], n.Ptrs[5+p] = words[p]+7, api.Addr(words[3+p])
		}
		return n
	})
}

// each goes over all nodes that are put together of two levels, three Lows, two Firsts, and three entries.
func each(t *testing.T, put func(heads [3]uint64, words [6]uint64) api.Node) {
	t.Helper()
	for i := range 12 * 27 * 64 {
		at := i
		take := func(n int) uint64 {
			d := at % n
			at /= n
			return uint64(d)
		}
		heads := [3]uint64{take(2), take(3), take(2)}
		words := [6]uint64{take(3), take(3), take(3), take(4), take(4), take(4)}
		holds(t, put(heads, words), 11)
	}
}

// P8.2, P8.3, P8.4, P8.5: many nodes of any words, most of which may not be, and many that may be, but for small things.
func TestMany(t *testing.T) {
	c := chance(8)
	for range 4000 {
		holds(t, c.node(6), 7)
		holds(t, c.node(40), 40)
	}
	may := 0
	for range 10000 {
		n := c.near()
		holds(t, n, 20)
		if node.May(n, 0, false) {
			may++
		}
	}
	if may < 1000 || may > 9000 {
		t.Errorf("%d of them may be", may)
	}
}

// P8.5, P8.6: Make of many rows of entries is ErrArg, or that node, by the chapter's words.
func TestMakeMany(t *testing.T) {
	c := chance(9)
	made := 0
	for range 20000 {
		base, level, low, next, first := api.Addr(c.below(4)), c.below(3), uint64(c.below(3)), api.Addr(c.word()), api.Addr(c.below(3))
		var l []api.Entry
		key := low
		for range c.below(10) {
			key += uint64(c.below(8))
			l = append(l, api.Entry{Key: key, Ptr: api.Addr(1 + c.below(200))})
		}
		n, e := node.Make(base, level, low, next, first, l...)
		want, code := makes(base, level, low, next, first, l)
		if n != want || e != code {
			t.Fatalf("Make(%d, %d, %d, %d, %d, %v): %v, %d", base, level, low, next, first, l, n, e)
		}
		if e == api.OK {
			made++
		}
	}
	if made < 1000 {
		t.Errorf("only %d were made", made)
	}
}

// makes is what the chapter's words say that Make answers.
func makes(base api.Addr, level int, low uint64, next, first api.Addr, l []api.Entry) (api.Node, api.Errno) {
	if first == 0 && level == 0 {
		first = base
	}
	ok := first != 0 && len(l) <= 8
	for i, e := range l {
		ok = ok && e.Ptr != 0 && e.Ptr != first && e.Key >= low && (level == 0 || e.Key > low)
		for _, d := range l[:i] {
			ok = ok && d.Ptr != e.Ptr && d.Key < e.Key
		}
	}
	if !ok {
		return api.Node{}, api.ErrArg
	}
	n := of(level, low, first, l...)
	n.Next = next
	return n, api.OK
}
