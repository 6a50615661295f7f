package node_test

import (
	"math"
	"slices"
	"testing"

	"levee/api"
	"levee/node"
)

const top = math.MaxUint64

// wrongLevels are levels that no node has.
func wrongLevels() []int {
	return []int{math.MinInt, math.MinInt + 1, -1 << 32, -1<<32 + 1, -256, -16, -2, -1, 16, 17, 31, 255, 256, 1 << 16, 1 << 32, 1<<32 + 1, math.MaxInt - 1, math.MaxInt}
}

// full is a node of whose words no two are the same.
func full(level int) api.Node {
	return api.Node{
		Level: level, Low: 101, Next: 102, Count: 103, First: 104,
		Keys: [8]uint64{200, 202, 204, 206, 208, 210, 212, 214},
		Ptrs: [8]api.Addr{201, 203, 205, 207, 209, 211, 213, 215},
	}
}

// of is a node with these entries at its first places.
func of(level int, low uint64, first api.Addr, l ...api.Entry) api.Node {
	n := api.Node{Level: level, Low: low, First: first}
	for p, e := range l {
		n.Keys[p], n.Ptrs[p] = e.Key, e.Ptr
	}
	return n
}

// leaf is the examples' one.
func leaf() api.Node {
	return of(0, 0, 1088, api.Entry{Key: 5, Ptr: 2112}, api.Entry{Key: 9, Ptr: 2176})
}

// rising are entries of n keys that rise by 10 from 10 on.
func rising(n int) []api.Entry {
	var l []api.Entry
	for i := range n {
		l = append(l, api.Entry{Key: uint64(10 + 10*i), Ptr: api.Addr(1088 + 64*i)})
	}
	return l
}

// The chapter's examples.
func TestExamples(t *testing.T) {
	n := leaf()
	if l := node.Len(n); l != 2 {
		t.Errorf("Len: %d", l)
	}
	if p, ok := node.Find(n, 9); p != 1 || !ok {
		t.Errorf("Find 9: %d, %v", p, ok)
	}
	if p := node.At(n, 7); p != 1 {
		t.Errorf("At 7: %d", p)
	}
	if s := node.Text(n); s != "0 0 0 1088 5=2112 9=2176" {
		t.Errorf("Text: %q", s)
	}
	n.Ptrs[1] = 2112
	if l := node.Valid(n); !slices.Equal(l, []api.Entry{{Key: 5, Ptr: 2112}}) {
		t.Errorf("Valid: %v", l)
	}
	if p := node.Invalid(n); p != 1 {
		t.Errorf("Invalid: %d", p)
	}
}

// P8.1: Words of each Level, each word at its place, three noughts behind First.
func TestWords(t *testing.T) {
	for level := range 16 {
		want := [24]uint64{0x4c45564545000000 | uint64(level), 101, 102, 103, 104, 0, 0, 0}
		for i := range 16 {
			want[8+i] = uint64(200 + i)
		}
		if w := node.Words(full(level)); w != want {
			t.Errorf("Words of the level %d: %x", level, w)
		}
	}
	if w := node.Words(api.Node{}); w != [24]uint64{0x4c45564545000000} {
		t.Errorf("Words of the zero node: %x", w)
	}
}

// P8.1: Words of another Level are all 0.
func TestWordsWrong(t *testing.T) {
	for _, level := range wrongLevels() {
		if w := node.Words(full(level)); w != [24]uint64{} {
			t.Errorf("Words of the level %d: %x", level, w)
		}
	}
}

// P8.1: Of of words is the node with each one by its name; the three behind First are not looked at.
func TestOf(t *testing.T) {
	for level := range 16 {
		w := [24]uint64{0x4c45564545000000 + uint64(level), 101, 102, 103, 104, top, 7, 1}
		for i := range 16 {
			w[8+i] = uint64(200 + i)
		}
		if n, e := node.Of(w); n != full(level) || e != api.OK {
			t.Errorf("Of the level %d: %v, %d", level, n, e)
		}
	}
	if n, e := node.Of([24]uint64{0x4c45564545000000}); n != (api.Node{}) || e != api.OK {
		t.Errorf("Of the zero node's words: %v, %d", n, e)
	}
}

// P8.1: Of of words whose first one is none's is ErrBytes, and the zero node, whatever the others.
func TestOfWrong(t *testing.T) {
	wrong := []uint64{0, 1, 15, 16, 0x4c455645, 0x4c45564500000000, 0x4c45564544ffffff, 0x4c4556454500000f + 1, 0x4c456f4545000000, 0x45455645_4c000000, 0x00000045_4556454c, api.Magic, ^uint64(0x4c45564545000000), top, 1 << 63}
	for bit := 4; bit < 64; bit++ {
		wrong = append(wrong, 0x4c45564545000000^1<<bit, 0x4c4556454500000f^1<<bit)
	}
	for _, first := range wrong {
		for _, w := range [][24]uint64{{}, node.Words(full(3))} {
			w[0] = first
			if n, e := node.Of(w); n != (api.Node{}) || e != api.ErrBytes {
				t.Errorf("Of of the first word %x: %v, %d", first, n, e)
			}
		}
	}
}

// P8.6: Of of Words is the node, whatever it has, if its Level may be.
func TestOfWords(t *testing.T) {
	c := chance(1)
	for i := range 20000 {
		n := c.node(16)
		n.Level = i % 16
		if got, e := node.Of(node.Words(n)); got != n || e != api.OK {
			t.Fatalf("Of of Words of %v: %v, %d", n, got, e)
		}
	}
}

// P8.2: Len counts the places ahead of the first pointer 0, whatever is behind it; without one all.
func TestLen(t *testing.T) {
	for p := range 9 {
		n := full(0)
		if p < 8 {
			n.Ptrs[p] = 0
		}
		if l := node.Len(n); l != p {
			t.Errorf("Len with the pointer 0 at %d: %d", p, l)
		}
		for q := p; q < 8; q++ {
			n.Ptrs[q] = 0
		}
		if l := node.Len(n); l != p {
			t.Errorf("Len with all pointers 0 from %d on: %d", p, l)
		}
	}
}

// P8.2: an entry whose pointer is that of the place ahead, or First's at the place 0, is not valid; the ones beside it are.
func TestOneInvalid(t *testing.T) {
	for p := range 8 {
		n := full(2)
		n.Ptrs[p] = n.First
		if p > 0 {
			n.Ptrs[p] = n.Ptrs[p-1]
		}
		var places []int
		var entries []api.Entry
		for q := range 8 {
			if q != p {
				places = append(places, q)
				entries = append(entries, api.Entry{Key: n.Keys[q], Ptr: n.Ptrs[q]})
			}
		}
		if l := node.Places(n); !slices.Equal(l, places) {
			t.Errorf("Places: %v, want %v", l, places)
		}
		if l := node.Valid(n); !slices.Equal(l, entries) {
			t.Errorf("Valid: %v, want %v", l, entries)
		}
		if q := node.Invalid(n); q != p {
			t.Errorf("Invalid: %d, want %d", q, p)
		}
	}
}

// P8.2: what stands behind the first pointer 0 is no entry, valid or not.
func TestBehindEnd(t *testing.T) {
	n := of(0, 0, 50, api.Entry{Key: 1, Ptr: 60}, api.Entry{Key: 2}, api.Entry{Key: 3, Ptr: 70}, api.Entry{Key: 4, Ptr: 70})
	if node.Len(n) != 1 || node.Invalid(n) != -1 || !slices.Equal(node.Places(n), []int{0}) || !slices.Equal(node.Valid(n), []api.Entry{{Key: 1, Ptr: 60}}) {
		t.Errorf("%d, %d, %v, %v", node.Len(n), node.Invalid(n), node.Places(n), node.Valid(n))
	}
	if _, ok := node.Find(n, 3); ok || node.At(n, 4) != 1 || node.Child(n, 4) != 60 || len(node.Active(n, 4, true)) != 1 || !node.May(n, 0, false) {
		t.Error("what is behind the end counts")
	}
}

// P8.2, P8.3, P8.4: of a node without entries.
func TestEmpty(t *testing.T) {
	for _, n := range []api.Node{{}, of(0, 0, 1088), of(3, 7, 1088)} {
		if node.Len(n) != 0 || len(node.Valid(n)) != 0 || len(node.Places(n)) != 0 || node.Invalid(n) != -1 || len(node.Active(n, 0, false)) != 0 {
			t.Errorf("%v has entries", n)
		}
		for _, key := range []uint64{0, 7, top} {
			if p, ok := node.Find(n, key); p != 0 || ok || node.At(n, key) != 0 || node.Child(n, key) != n.First {
				t.Errorf("%v has the key %d", n, key)
			}
		}
	}
}

// P8.2: First 0 is the pointer of no entry, so the one at the place 0 is valid.
func TestFirstNone(t *testing.T) {
	n := of(0, 0, 0, api.Entry{Key: 4, Ptr: 64})
	if !slices.Equal(node.Places(n), []int{0}) || node.Invalid(n) != -1 || node.Child(n, 3) != 0 || node.Child(n, 4) != 64 {
		t.Errorf("%v, %d", node.Places(n), node.Invalid(n))
	}
}

// P8.3: May of Levels.
func TestMayLevel(t *testing.T) {
	for level := range 16 {
		if !node.May(full(level), 0, false) {
			t.Errorf("the level %d may not be", level)
		}
	}
	for _, level := range wrongLevels() {
		if node.May(full(level), 0, false) {
			t.Errorf("the level %d may be", level)
		}
	}
}

// P8.3: May of a First that is 0.
func TestMayFirst(t *testing.T) {
	for level := range 16 {
		n := full(level)
		n.First = 0
		if node.May(n, 0, false) || node.May(of(level, 0, 0), 0, false) {
			t.Errorf("First 0 may be, of the level %d", level)
		}
		if !node.May(of(level, 0, 1), 0, false) {
			t.Errorf("First 1 may not be, of the level %d", level)
		}
	}
}

// P8.3: May of one entry that is not valid, at each place, and of two, at each two.
func TestMayInvalid(t *testing.T) {
	ahead := func(n api.Node, p int) api.Addr {
		if p == 0 {
			return n.First
		}
		return n.Ptrs[p-1]
	}
	for p := range 8 {
		one := full(1)
		one.Ptrs[p] = ahead(one, p)
		if !node.May(one, 0, false) {
			t.Errorf("the entry %d alone may not be one that is not valid", p)
		}
		one.Keys[p] = 0
		if !node.May(one, 0, false) {
			t.Errorf("the key of the entry %d, that is not valid, counts", p)
		}
		for q := p + 1; q < 8; q++ {
			two := one
			two.Ptrs[q] = ahead(two, q)
			if node.May(two, 0, false) {
				t.Errorf("the entries %d and %d may be two that are not valid", p, q)
			}
		}
	}
}

// P8.3: May of keys that do not rise, at each place.
func TestMayKeys(t *testing.T) {
	for p := 1; p < 8; p++ {
		for _, key := range []uint64{top, 300, full(0).Keys[p-1] + 1} {
			n := full(0)
			n.Keys[p] = key
			if may := p == 7 || key < full(0).Keys[p+1]; node.May(n, 0, false) != may {
				t.Errorf("May with the key %d at %d: %v", key, p, !may)
			}
		}
		for _, key := range []uint64{0, 101, full(0).Keys[p-1] - 1, full(0).Keys[p-1]} {
			n := full(0)
			n.Keys[p] = key
			if node.May(n, 0, false) {
				t.Errorf("May with the key %d at %d", key, p)
			}
		}
	}
}

// P8.3: keys are held against each other over an entry that is not valid.
func TestMayKeysOver(t *testing.T) {
	n := of(0, 0, 50, api.Entry{Key: 5, Ptr: 60}, api.Entry{Key: 9, Ptr: 60}, api.Entry{Key: 6, Ptr: 70})
	if !node.May(n, 0, false) {
		t.Error("5, 6 may not be")
	}
	n.Keys[2] = 5
	if node.May(n, 0, false) {
		t.Error("5, 5 may be")
	}
}

// P8.3: a leaf's keys are from Low on, an inner node's are above it.
func TestMayLow(t *testing.T) {
	for _, low := range []uint64{0, 1, 7, 1 << 63, top - 1, top} {
		for level := range 16 {
			at := of(level, low, 50, api.Entry{Key: low, Ptr: 60})
			if node.May(at, 0, false) != (level == 0) {
				t.Errorf("May of the level %d with Low %d and that key: %v", level, low, level != 0)
			}
			if low > 0 {
				below := of(level, low, 50, api.Entry{Key: low - 1, Ptr: 60})
				if node.May(below, 0, false) {
					t.Errorf("May of the level %d with Low %d and a key below it", level, low)
				}
			}
			if low < top {
				above := of(level, low, 50, api.Entry{Key: low + 1, Ptr: 60})
				if !node.May(above, 0, false) {
					t.Errorf("May not, of the level %d with Low %d and a key above it", level, low)
				}
			}
		}
	}
}

// P8.3: May of two pointers that are the same, at each two places that are not neighbours, First among them.
func TestMayPointers(t *testing.T) {
	for q := range 8 {
		n := full(0)
		if q > 0 {
			n.Ptrs[q] = n.First
			if node.May(n, 0, false) {
				t.Errorf("First may be at %d", q)
			}
		}
		for p := range q - 1 {
			n.Ptrs[q] = n.Ptrs[p]
			if node.May(n, 0, false) {
				t.Errorf("the pointer of %d may be at %d", p, q)
			}
		}
	}
}

// P8.3: what is below, at and above Low as a bound; without a bound that number does not count.
func TestMayBound(t *testing.T) {
	for _, low := range []uint64{0, 1, 7, 1 << 63, top - 1, top} {
		n := of(0, low, 50)
		for _, high := range []uint64{0, low - 1, low, low + 1, top} {
			if node.May(n, high, true) != (high > low) {
				t.Errorf("May of Low %d by %d: %v", low, high, high <= low)
			}
			if !node.May(n, high, false) {
				t.Errorf("May not of Low %d without a bound, but the number %d", low, high)
			}
		}
	}
}

// P8.3: stale entries may be; Active has none of them, and without a bound all.
func TestActive(t *testing.T) {
	n := of(0, 10, 50, rising(8)...)
	for _, high := range []uint64{0, 9, 10, 11, 20, 21, 79, 80, 81, top} {
		var want []api.Entry
		for _, e := range rising(8) {
			if e.Key < high {
				want = append(want, e)
			}
		}
		if l := node.Active(n, high, true); !slices.Equal(l, want) {
			t.Errorf("Active by %d: %v", high, l)
		}
		if l := node.Active(n, high, false); !slices.Equal(l, rising(8)) {
			t.Errorf("Active without a bound: %v", l)
		}
		if node.May(n, high, true) != (high > 10) {
			t.Errorf("May by %d: %v", high, high <= 10)
		}
	}
	n.Keys[7] = top
	if l := node.Active(n, top, true); len(l) != 7 {
		t.Errorf("Active by the greatest key: %v", l)
	}
	if l := node.Active(n, 0, false); len(l) != 8 {
		t.Errorf("Active of the greatest key: %v", l)
	}
}

// P8.3: an entry that is not valid is not active, either.
func TestActiveInvalid(t *testing.T) {
	n := of(0, 0, 50, api.Entry{Key: 1, Ptr: 50}, api.Entry{Key: 2, Ptr: 60}, api.Entry{Key: 3, Ptr: 70})
	if l := node.Active(n, 3, true); !slices.Equal(l, []api.Entry{{Key: 2, Ptr: 60}}) {
		t.Errorf("Active: %v", l)
	}
}

// P8.4: Find, At and Child of each key of a node, and of those beside it.
func TestFindAtChild(t *testing.T) {
	for count := range 9 {
		n := of(1, 3, 50, rising(count)...)
		for key := range uint64(100) {
			at := min(int(key/10), count)
			child := api.Addr(50)
			if at > 0 {
				child = api.Addr(1088 + 64*(at-1))
			}
			if p := node.At(n, key); p != at {
				t.Errorf("At %d of %d: %d", key, count, p)
			}
			if c := node.Child(n, key); c != child {
				t.Errorf("Child %d of %d: %d", key, count, c)
			}
			has := key > 0 && key%10 == 0 && int(key/10) <= count
			p, ok := node.Find(n, key)
			if ok != has || has && p != at-1 || !has && p != 0 {
				t.Errorf("Find %d of %d: %d, %v", key, count, p, ok)
			}
		}
	}
}

// P8.4: the least key and the greatest one.
func TestFindEdges(t *testing.T) {
	n := of(0, 0, 50, api.Entry{Key: 0, Ptr: 60}, api.Entry{Key: top, Ptr: 70})
	if p, ok := node.Find(n, 0); p != 0 || !ok {
		t.Errorf("Find 0: %d, %v", p, ok)
	}
	if p, ok := node.Find(n, top); p != 1 || !ok {
		t.Errorf("Find of the greatest key: %d, %v", p, ok)
	}
	if node.At(n, 0) != 1 || node.At(n, top-1) != 1 || node.At(n, top) != 2 || node.Child(n, top) != 70 || node.Child(n, top-1) != 60 {
		t.Error("At, Child of the least and the greatest keys")
	}
}

// P8.4: an entry that is not valid is not found; At counts its place, where one behind it is not above the key.
func TestFindInvalid(t *testing.T) {
	n := of(0, 0, 50, api.Entry{Key: 5, Ptr: 60}, api.Entry{Key: 7, Ptr: 60}, api.Entry{Key: 9, Ptr: 70})
	if p, ok := node.Find(n, 7); p != 0 || ok {
		t.Errorf("Find 7: %d, %v", p, ok)
	}
	if p, ok := node.Find(n, 9); p != 2 || !ok {
		t.Errorf("Find 9: %d, %v", p, ok)
	}
	if node.At(n, 8) != 1 || node.At(n, 9) != 3 || node.Child(n, 8) != 60 || node.Child(n, 9) != 70 {
		t.Errorf("At: %d, %d", node.At(n, 8), node.At(n, 9))
	}
	n.Keys[1] = 9 // as within a shift: the entry behind it stands there once more
	if p, ok := node.Find(n, 9); p != 2 || !ok {
		t.Errorf("Find 9: %d, %v", p, ok)
	}
}

// P8.4: of several valid entries of a key the first one is found; At and Child are of the last one that is not above the key.
func TestFindTwice(t *testing.T) {
	n := of(0, 0, 50, api.Entry{Key: 9, Ptr: 60}, api.Entry{Key: 5, Ptr: 70}, api.Entry{Key: 5, Ptr: 80}, api.Entry{Key: 9, Ptr: 90})
	if p, ok := node.Find(n, 5); p != 1 || !ok {
		t.Errorf("Find 5: %d, %v", p, ok)
	}
	if p, ok := node.Find(n, 9); p != 0 || !ok {
		t.Errorf("Find 9: %d, %v", p, ok)
	}
	if node.At(n, 8) != 3 || node.Child(n, 8) != 80 || node.At(n, 4) != 0 || node.Child(n, 4) != 50 {
		t.Errorf("At 8: %d, At 4: %d", node.At(n, 8), node.At(n, 4))
	}
}

// P8.5, P8.6: Make of as many entries as there may be, of each Level: that node, which may be, and has just these.
func TestMake(t *testing.T) {
	for level := range 16 {
		for count := range 9 {
			l := rising(count)
			want := of(level, 9, 50, l...)
			want.Next = 3000
			n, e := node.Make(1024, level, 9, 3000, 50, l...)
			if n != want || e != api.OK {
				t.Errorf("Make of the level %d, %d entries: %v, %d", level, count, n, e)
			}
			if !node.May(n, 0, false) || node.Invalid(n) != -1 || !slices.Equal(node.Valid(n), l) {
				t.Errorf("Make of the level %d, %d entries: %v may not be", level, count, n)
			}
		}
	}
}

// P8.5: a leaf without First has its base there, one with First has that, whatever the base.
func TestMakeFirst(t *testing.T) {
	if n, e := node.Make(1088, 0, 7, 0, 0); n != of(0, 7, 1088) || e != api.OK {
		t.Errorf("Make of a leaf: %v, %d", n, e)
	}
	for _, base := range []api.Addr{0, 1, 60, 1088, top} {
		if n, e := node.Make(base, 0, 7, 0, 50, api.Entry{Key: 7, Ptr: 60}); n != of(0, 7, 50, api.Entry{Key: 7, Ptr: 60}) || e != api.OK {
			t.Errorf("Make of a leaf at %d with First: %v, %d", base, n, e)
		}
		if n, e := node.Make(base, 1, 7, 0, 50, api.Entry{Key: 8, Ptr: 60}); n != of(1, 7, 50, api.Entry{Key: 8, Ptr: 60}) || e != api.OK {
			t.Errorf("Make of an inner node at %d: %v, %d", base, n, e)
		}
	}
}

// refused says that Make is ErrArg, and the zero node.
func refused(t *testing.T, base api.Addr, level int, low uint64, first api.Addr, l ...api.Entry) {
	t.Helper()
	if n, e := node.Make(base, level, low, 0, first, l...); n != (api.Node{}) || e != api.ErrArg {
		t.Errorf("Make(%d, %d, %d, 0, %d, %v): %v, %d", base, level, low, first, l, n, e)
	}
}

// P8.5: Make of what may not be, by its Level, its base and First, and how many entries.
func TestMakeWrong(t *testing.T) {
	for _, level := range wrongLevels() {
		refused(t, 1088, level, 0, 50)
		refused(t, 1088, level, 0, 0)
	}
	for level := 1; level < 16; level++ {
		refused(t, 1088, level, 0, 0)
		refused(t, 1088, level, 0, 0, rising(2)...)
	}
	refused(t, 0, 0, 0, 0)
	refused(t, 0, 0, 0, 0, rising(2)...)
	for _, count := range []int{9, 10, 100} {
		refused(t, 24, 0, 0, 0, rising(count)...)
		refused(t, 24, 5, 0, 50, rising(count)...)
	}
	refused(t, 24, 0, 0, 0, append(rising(8), api.Entry{})...)
}

// P8.5: Make with each pointer once 0, once that of each other entry, once First, given or not.
func TestMakePointers(t *testing.T) {
	for p := range 8 {
		for _, ptr := range []api.Addr{0, 24} {
			l := rising(8)
			l[p].Ptr = ptr
			refused(t, 24, 0, 0, 0, l...)
			refused(t, 1, 1, 0, 24, l...)
			refused(t, 1, 0, 0, 24, l...)
		}
		for q := range p {
			l := rising(8)
			l[p].Ptr = l[q].Ptr
			refused(t, 24, 0, 0, 0, l...)
			refused(t, 24, 1, 0, 50, l...)
		}
	}
}

// P8.5: Make with keys that do not rise, that are below Low, and of an inner node with Low's own.
func TestMakeKeys(t *testing.T) {
	for p := 1; p < 8; p++ {
		for _, key := range []uint64{0, rising(8)[p-1].Key - 1, rising(8)[p-1].Key} {
			l := rising(8)
			l[p].Key = key
			refused(t, 24, 0, 0, 0, l...)
			refused(t, 24, 1, 0, 50, l...)
		}
	}
	for _, low := range []uint64{11, 20, 80, 81, top} {
		refused(t, 24, 0, low, 0, rising(8)...)
		refused(t, 24, 1, low, 50, rising(8)...)
	}
	refused(t, 24, 1, 10, 50, rising(8)...)
	if _, e := node.Make(24, 0, 10, 0, 0, rising(8)...); e != api.OK {
		t.Errorf("Make of a leaf with Low's own key: %d", e)
	}
}

// P8.5: Text of nodes with and without entries, of the greatest numbers, and of an entry that is not valid.
func TestText(t *testing.T) {
	most := of(15, top, top, api.Entry{Key: top, Ptr: 1})
	most.Next = top
	invalid := of(1, 2, 50, api.Entry{Key: 3, Ptr: 50}, api.Entry{Key: 4, Ptr: 60}, api.Entry{Key: 5, Ptr: 60})
	for want, n := range map[string]api.Node{
		"0 0 0 0":             {},
		"3 101 102 104 200=7": {Level: 3, Low: 101, Next: 102, Count: 103, First: 104, Keys: [8]uint64{200, 300}, Ptrs: [8]api.Addr{7}},
		"0 101 102 104 200=201 202=203 204=205 206=207 208=209 210=211 212=213 214=215":            full(0),
		"15 18446744073709551615 18446744073709551615 18446744073709551615 18446744073709551615=1": most,
		"1 2 0 50 4=60": invalid,
	} {
		if s := node.Text(n); s != want {
			t.Errorf("Text: %q, want %q", s, want)
		}
	}
}

// What is answered shares no memory with what is answered anew, and what is handed in stays as it was.
func TestApart(t *testing.T) {
	n := full(0)
	valid, active, places := node.Valid(n), node.Active(n, top, true), node.Places(n)
	valid[0], active[0], places[0] = api.Entry{}, api.Entry{}, -1
	if node.Valid(n)[0].Key != 200 || node.Active(n, top, true)[0].Key != 200 || node.Places(n)[0] != 0 || n != full(0) {
		t.Error("an answer is kept")
	}
	l := rising(8)
	made, _ := node.Make(24, 0, 0, 0, 0, l...)
	if !slices.Equal(l, rising(8)) {
		t.Errorf("Make has changed its entries: %v", l)
	}
	l[0] = api.Entry{}
	if !slices.Equal(node.Valid(made), rising(8)) {
		t.Error("a node hangs on what was handed in")
	}
}
