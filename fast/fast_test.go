package fast_test

import (
	"slices"
	"testing"

	"levee/api"
	"levee/fast"
)

// base is where the nodes of these tests stand.
const base = 1088

// leaf is the leaf of the chapter's examples.
func leaf() api.Node {
	return leafOf(5, 9)
}

// leafOf is a leaf at base, of Count 4, whose entries have these keys, and the pointers 2112, 2176, ..
func leafOf(keys ...uint64) api.Node {
	n := api.Node{Count: 4, First: base}
	for p, key := range keys {
		n.Keys[p], n.Ptrs[p] = key, api.Addr(2112+64*p)
	}
	return n
}

// torn is a leaf's whose entry at a place has the pointer of the one ahead.
func torn(n api.Node, p int) api.Node {
	n.Ptrs[p] = n.First
	if p > 0 {
		n.Ptrs[p] = n.Ptrs[p-1]
	}
	return n
}

// puts are stores, of addresses and words.
func puts(l ...uint64) []api.Put {
	var s []api.Put
	for i := 0; i < len(l); i += 2 {
		s = append(s, api.Put{At: api.Addr(l[i]), Word: l[i+1]})
	}
	return s
}

// one says that a change has these stores.
func one(t *testing.T, what string, want []api.Put, got []api.Put, e api.Errno) {
	t.Helper()
	if e != api.OK || !slices.Equal(got, want) {
		t.Errorf("%s: %v, %d; not %v", what, got, e, want)
	}
}

// none says that a change is refused, by this error.
func none(t *testing.T, what string, want api.Errno, got []api.Put, e api.Errno) {
	t.Helper()
	if e != want || got != nil {
		t.Errorf("%s: %v, %d; not %d", what, got, e, want)
	}
}

// P9.1: the chapter's examples.
func TestExamples(t *testing.T) {
	got, e := fast.Insert(base, leaf(), 7, 2240)
	one(t, "Insert 7", puts(1112, 5, 1208, 0, 1192, 2176, 1184, 9, 1176, 2112, 1168, 7, 1176, 2240, 1112, 6), got, e)
	got, e = fast.Delete(base, leaf(), 5)
	one(t, "Delete 5", puts(1112, 5, 1160, 1088, 1152, 9, 1160, 2176, 1176, 0, 1112, 6), got, e)
}

// P9.1 (Insert): at the front the pointer ahead is First; at the end nothing is shifted; a node of nothing; one of seven has no place behind its eighth one.
func TestInsert(t *testing.T) {
	got, e := fast.Insert(base, leaf(), 0, 2240)
	one(t, "at the front", puts(1112, 5, 1208, 0, 1192, 2176, 1184, 9, 1176, 2112, 1168, 5, 1160, 1088, 1152, 0, 1160, 2240, 1112, 6), got, e)
	got, e = fast.Insert(base, leaf(), 1<<64-1, 2240)
	one(t, "at the end", puts(1112, 5, 1208, 0, 1192, 2176, 1184, 1<<64-1, 1192, 2240, 1112, 6), got, e)
	got, e = fast.Insert(base, leafOf(), 7, 1)
	one(t, "into nothing", puts(1112, 5, 1176, 0, 1160, 1088, 1152, 7, 1160, 1, 1112, 6), got, e)
	got, e = fast.Insert(base, leafOf(1, 2, 3, 4, 5, 6), 7, 64)
	one(t, "a seventh", puts(1112, 5, 1272, 0, 1256, 2432, 1248, 7, 1256, 64, 1112, 6), got, e)
	got, e = fast.Insert(base, leafOf(1, 2, 3, 4, 5, 7), 6, 64)
	one(t, "a seventh, ahead of another one", puts(1112, 5, 1272, 0, 1256, 2432, 1248, 7, 1240, 2368, 1232, 6, 1240, 64, 1112, 6), got, e)
	got, e = fast.Insert(base, leafOf(1, 2, 3, 4, 5, 6, 7), 8, 64)
	one(t, "an eighth", puts(1112, 5, 1272, 2496, 1264, 8, 1272, 64, 1112, 6), got, e)
	got, e = fast.Insert(base, leafOf(1, 2, 3, 4, 5, 6, 8), 7, 64)
	one(t, "an eighth, ahead of another one", puts(1112, 5, 1272, 2496, 1264, 8, 1256, 2432, 1248, 7, 1256, 64, 1112, 6), got, e)
}

// P9.1 (Insert): what stands behind the first pointer 0 is none of the node's, and may come; it is shut out ahead of all else.
func TestInsertBehindTheEnd(t *testing.T) {
	n := leaf()
	n.Keys[3], n.Ptrs[3] = 7, 3000
	n.Keys[2] = 6
	want := puts(1112, 5, 1208, 0, 1192, 2176, 1184, 9, 1176, 2112, 1168, 7, 1176, 3000, 1112, 6)
	got, e := fast.Insert(base, n, 7, 3000)
	one(t, "what stood behind the end", want, got, e)
}

// P9.1 (Delete): the first one, one between, the last one, the only one, the last one of eight.
func TestDelete(t *testing.T) {
	got, e := fast.Delete(base, leafOf(5, 7, 9), 7)
	one(t, "one between", puts(1112, 5, 1176, 2112, 1168, 9, 1176, 2240, 1192, 0, 1112, 6), got, e)
	got, e = fast.Delete(base, leaf(), 9)
	one(t, "the last one", puts(1112, 5, 1176, 2112, 1176, 0, 1112, 6), got, e)
	got, e = fast.Delete(base, leafOf(7), 7)
	one(t, "the only one", puts(1112, 5, 1160, 1088, 1160, 0, 1112, 6), got, e)
	got, e = fast.Delete(base, leafOf(1, 2, 3, 4, 5, 6, 7, 8), 8)
	one(t, "the last one of eight", puts(1112, 5, 1272, 2496, 1272, 0, 1112, 6), got, e)
	got, e = fast.Delete(base, leafOf(1, 2, 3, 4, 5, 6, 7, 8), 6)
	one(t, "the sixth of eight", puts(1112, 5, 1240, 2368, 1232, 7, 1240, 2496, 1248, 8, 1256, 2560, 1272, 0, 1112, 6), got, e)
}

// P9.1 (Repair): the entry that is not valid goes, wherever it stands.
func TestRepair(t *testing.T) {
	got, e := fast.Repair(base, torn(leafOf(5, 7, 9), 0))
	one(t, "the first one", puts(1112, 5, 1152, 7, 1160, 2176, 1168, 9, 1176, 2240, 1192, 0, 1112, 6), got, e)
	got, e = fast.Repair(base, torn(leafOf(5, 7, 9), 1))
	one(t, "one between", puts(1112, 5, 1168, 9, 1176, 2240, 1192, 0, 1112, 6), got, e)
	got, e = fast.Repair(base, torn(leafOf(5, 7, 9), 2))
	one(t, "the last one", puts(1112, 5, 1192, 0, 1112, 6), got, e)
	got, e = fast.Repair(base, torn(leafOf(1, 2, 3, 4, 5, 6, 7, 8), 7))
	one(t, "the last one of eight", puts(1112, 5, 1272, 0, 1112, 6), got, e)
	n := torn(leafOf(5, 9), 1)
	n.Keys[1] = 0
	got, e = fast.Repair(base, n)
	one(t, "one whose key is none that may be", puts(1112, 5, 1176, 0, 1112, 6), got, e)
}

// P9.1 (Swap, Cut, Link): one word each.
func TestOneWord(t *testing.T) {
	got, e := fast.Swap(base, leaf(), 5, 64)
	one(t, "Swap 5", puts(1112, 5, 1160, 64, 1112, 6), got, e)
	got, e = fast.Swap(base, leafOf(1, 2, 3, 4, 5, 6, 7, 8), 8, 64)
	one(t, "Swap 8", puts(1112, 5, 1272, 64, 1112, 6), got, e)
	got, e = fast.Cut(base, leaf(), 9)
	one(t, "Cut 9", puts(1112, 5, 1176, 0, 1112, 6), got, e)
	got, e = fast.Cut(base, leaf(), 6)
	one(t, "Cut 6", puts(1112, 5, 1176, 0, 1112, 6), got, e)
	got, e = fast.Cut(base, leaf(), 0)
	one(t, "Cut 0", puts(1112, 5, 1160, 0, 1112, 6), got, e)
	got, e = fast.Link(base, leaf(), 1280)
	one(t, "Link 1280", puts(1112, 5, 1104, 1280, 1112, 6), got, e)
	got, e = fast.Link(base, leaf(), 0)
	one(t, "Link to nothing", puts(1112, 5, 1104, 0, 1112, 6), got, e)
}

// P9.1: Count goes round.
func TestCountGoesRound(t *testing.T) {
	n := leaf()
	for count, want := range map[uint64][2]uint64{1<<64 - 1: {0, 1}, 1<<64 - 2: {1<<64 - 1, 0}, 7: {8, 9}} {
		n.Count = count
		got, e := fast.Link(base, n, 64)
		one(t, "Link", puts(1112, want[0], 1104, 64, 1112, want[1]), got, e)
	}
}

// changes are all six, each one to a node that it may be done to, but for what is wrong with the base or the node.
func changes() map[string]func(api.Addr, api.Node) ([]api.Put, api.Errno) {
	return map[string]func(api.Addr, api.Node) ([]api.Put, api.Errno){
		"Insert": func(b api.Addr, n api.Node) ([]api.Put, api.Errno) { return fast.Insert(b, n, 7, 4096) },
		"Delete": func(b api.Addr, n api.Node) ([]api.Put, api.Errno) { return fast.Delete(b, n, 5) },
		"Repair": fast.Repair,
		"Swap":   func(b api.Addr, n api.Node) ([]api.Put, api.Errno) { return fast.Swap(b, n, 5, 4096) },
		"Cut":    func(b api.Addr, n api.Node) ([]api.Put, api.Errno) { return fast.Cut(b, n, 5) },
		"Link":   func(b api.Addr, n api.Node) ([]api.Put, api.Errno) { return fast.Link(b, n, 4096) },
	}
}

// fit is a node that this change may be done to.
func fit(what string) api.Node {
	if what == "Repair" {
		return torn(leaf(), 1)
	}
	return leaf()
}

// P9.1 (ErrArg): a base may be a multiple of 64, above 0, at most 2^40.
func TestBases(t *testing.T) {
	for what, change := range changes() {
		for _, b := range []api.Addr{64, 1088, 1<<40 - 64, 1 << 40} {
			l, e := change(b, fit(what))
			if e != api.OK || len(l) < 3 || l[0].At != b+24 || l[len(l)-1].At != b+24 {
				t.Errorf("%s at %d: %v, %d", what, b, l, e)
			}
		}
		for _, b := range []api.Addr{0, 1, 8, 63, 65, 96, 1087, 1089, 1<<40 - 1, 1<<40 + 1, 1<<40 + 64, 1 << 41, 1<<64 - 64, 1<<64 - 1} {
			l, e := change(b, fit(what))
			none(t, what, api.ErrArg, l, e)
		}
	}
}

// P9.1 (ErrArg): a node that may not be, also where it has an entry that is not valid.
func TestNodesThatMayNotBe(t *testing.T) {
	for what, change := range changes() {
		for _, turn := range []func(*api.Node){
			func(n *api.Node) { n.Level = -1 },
			func(n *api.Node) { n.Level = 16 },
			func(n *api.Node) { n.First = 0 },
			func(n *api.Node) { n.Low = 6 },
			func(n *api.Node) { n.Level, n.Low = 1, 5 },
			func(n *api.Node) { n.Ptrs = [8]api.Addr{base, base} },
			func(n *api.Node) { n.Keys, n.Ptrs = [8]uint64{5, 5, 5}, [8]api.Addr{64, 64, 128} },
			func(n *api.Node) { n.Keys, n.Ptrs = [8]uint64{5, 9, 10}, [8]api.Addr{64, 128, 64} },
		} {
			n := fit(what)
			turn(&n)
			l, e := change(base, n)
			none(t, what, api.ErrArg, l, e)
		}
		n := fit(what)
		n.Level, n.Low = 15, 4
		if l, e := change(base, n); e != api.OK {
			t.Errorf("%s at the highest level: %v, %d", what, l, e)
		}
	}
}

// P9.1 (ErrState): an entry that is not valid, ahead of what comes later in the errors' order; of Repair, none.
func TestState(t *testing.T) {
	for what, change := range changes() {
		n := torn(leafOf(5, 6, 9), 1)
		if what == "Repair" {
			n = leaf()
		}
		l, e := change(base, n)
		none(t, what, api.ErrState, l, e)
	}
	l, e := fast.Repair(base, leafOf())
	none(t, "Repair of nothing", api.ErrState, l, e)
	full := torn(leafOf(1, 2, 3, 4, 5, 6, 7, 8), 3)
	l, e = fast.Insert(base, full, 1, 64)
	none(t, "a key that is there", api.ErrState, l, e)
	l, e = fast.Insert(base, full, 9, 64)
	none(t, "a full one", api.ErrState, l, e)
	l, e = fast.Delete(base, full, 9)
	none(t, "Delete of none", api.ErrState, l, e)
	l, e = fast.Swap(base, full, 9, 64)
	none(t, "Swap of none", api.ErrState, l, e)
	l, e = fast.Cut(base, full, 9)
	none(t, "Cut of none", api.ErrState, l, e)
}

// P9.1 (ErrArg of Insert, Swap): a pointer 0, First, or an entry's, a stale one's too, ahead of all else; one behind the end is none of the node's.
func TestPointers(t *testing.T) {
	n := leafOf(5, 9, 11)
	n.Ptrs[4] = 4096
	for _, ptr := range []api.Addr{0, base, 2112, 2176, 2240} {
		for _, key := range []uint64{5, 7, 9, 11} {
			l, e := fast.Insert(base, n, key, ptr)
			none(t, "Insert", api.ErrArg, l, e)
			l, e = fast.Swap(base, n, key, ptr)
			none(t, "Swap", api.ErrArg, l, e)
			rest := torn(n, 2) // one that may be, and has all of these pointers still
			rest.Keys[3], rest.Ptrs[3], rest.Ptrs[4] = 12, 2240, 0
			l, e = fast.Insert(base, rest, key, ptr)
			none(t, "Insert into a torn one", api.ErrArg, l, e)
			l, e = fast.Swap(base, rest, key, ptr)
			none(t, "Swap in a torn one", api.ErrArg, l, e)
		}
	}
	got, e := fast.Swap(base, n, 9, 4096)
	one(t, "Swap", puts(1112, 5, 1176, 4096, 1112, 6), got, e)
	full := leafOf(1, 2, 3, 4, 5, 6, 7, 8)
	l, e := fast.Insert(base, full, 9, full.Ptrs[7])
	none(t, "Insert into a full one", api.ErrArg, l, e)
}

// P9.1 (Insert's ErrArg, ErrFull): a key that is there, or below Low; of an inner node Low itself; also where it is full.
func TestKeys(t *testing.T) {
	for _, n := range []api.Node{leafOf(5, 9), leafOf(5, 6, 7, 8, 9, 10, 11, 12)} {
		n.Low = 4
		for _, key := range []uint64{0, 3, 5, 9} {
			l, e := fast.Insert(base, n, key, 64)
			none(t, "Insert", api.ErrArg, l, e)
		}
		want := api.OK
		if n.Ptrs[7] != 0 {
			want = api.ErrFull
		}
		if l, e := fast.Insert(base, n, 4, 64); e != want || e != api.OK && l != nil {
			t.Errorf("Low into a leaf: %v, %d", l, e)
		}
		n.Level = 1
		l, e := fast.Insert(base, n, 4, 64)
		none(t, "Low into an inner node", api.ErrArg, l, e)
	}
	n := leafOf(1<<64 - 1)
	l, e := fast.Insert(base, n, 1<<64-1, 64)
	none(t, "the greatest key once more", api.ErrArg, l, e)
	n.Low = 1<<64 - 1
	l, e = fast.Insert(base, n, 1<<64-2, 64)
	none(t, "one below it", api.ErrArg, l, e)
}

// P9.1 (ErrNone): a key that is not there; nothing from the bound on; nothing at all.
func TestNone(t *testing.T) {
	n := leaf()
	n.Keys[2], n.Keys[3], n.Ptrs[3] = 6, 10, 4096 // behind the end
	for _, key := range []uint64{0, 4, 6, 8, 10, 1<<64 - 1} {
		l, e := fast.Delete(base, n, key)
		none(t, "Delete", api.ErrNone, l, e)
		l, e = fast.Swap(base, n, key, 64)
		none(t, "Swap", api.ErrNone, l, e)
	}
	l, e := fast.Cut(base, n, 10)
	none(t, "Cut", api.ErrNone, l, e)
	l, e = fast.Cut(base, leafOf(), 0)
	none(t, "Cut of nothing", api.ErrNone, l, e)
	l, e = fast.Delete(base, leafOf(), 0)
	none(t, "Delete of nothing", api.ErrNone, l, e)
}

// P9.1: a zero node is none that may be.
func TestZero(t *testing.T) {
	for what, change := range changes() {
		l, e := change(0, api.Node{})
		none(t, what, api.ErrArg, l, e)
		l, e = change(base, api.Node{})
		none(t, what, api.ErrArg, l, e)
	}
}

// P9.1: lists that are answered share no memory.
func TestNewMemory(t *testing.T) {
	n := leaf()
	for what, change := range changes() {
		l, _ := change(base, fit(what))
		want := slices.Clone(l)
		for i := range l {
			l[i] = api.Put{}
		}
		if got, e := change(base, fit(what)); e != api.OK || !slices.Equal(got, want) {
			t.Errorf("%s: %v, %d", what, got, e)
		}
	}
	if n != leaf() {
		t.Error(n)
	}
}

// whole is a node whose words are all unlike.
func whole() api.Node {
	n := api.Node{Level: 2, Low: 1, Next: 2, Count: 3, First: 4}
	for p := range 8 {
		n.Keys[p], n.Ptrs[p] = uint64(10+p), api.Addr(20+p)
	}
	return n
}

// P9.2 (Apply): each address near a node, whole words or not: Low, Next, Count, First, a key, a pointer; all else is ErrArg.
func TestApply(t *testing.T) {
	for _, b := range []api.Addr{64, base, 1 << 40} {
		for at := b - 64; at < b+320; at++ {
			want, may := whole(), true
			p := int(at-b)/16 - 4
			switch {
			case at == b+8:
				want.Low = 77
			case at == b+16:
				want.Next = 77
			case at == b+24:
				want.Count = 77
			case at == b+32:
				want.First = 77
			case at >= b+64 && at < b+192 && at%16 == 0:
				want.Keys[p] = 77
			case at >= b+64 && at < b+192 && at%16 == 8:
				want.Ptrs[p] = 77
			default:
				want, may = api.Node{}, false
			}
			n, e := fast.Apply(b, whole(), api.Put{At: at, Word: 77})
			if n != want || (e == api.OK) != may || !may && e != api.ErrArg {
				t.Errorf("at %d from %d on: %v, %d", at, b, n, e)
			}
		}
	}
}

// P9.2 (Apply): no store, many, one word twice, words of all bits; one that may not be among others; bases; stores far off.
func TestApplyMany(t *testing.T) {
	if n, e := fast.Apply(base, whole()); n != whole() || e != api.OK {
		t.Error(n, e)
	}
	want := whole()
	want.Keys[7], want.Ptrs[0], want.Low, want.Next = 5, 1<<64-1, 1<<64-1, 0
	n, e := fast.Apply(base, whole(), puts(1264, 6, 1160, 1<<64-1, 1264, 5, 1096, 1<<64-1, 1104, 0)...)
	if n != want || e != api.OK {
		t.Error(n, e)
	}
	for _, at := range []uint64{0, 8, 1088, 1024 + 8, 1280, 1<<64 - 8, 1088 + 1<<32, 1088 + 1<<63 + 8} {
		for _, l := range [][]api.Put{puts(at, 5, 1160, 6), puts(1160, 6, at, 5, 1264, 6)} {
			if n, e := fast.Apply(base, whole(), l...); n != (api.Node{}) || e != api.ErrArg {
				t.Error(at, n, e)
			}
		}
	}
	for _, b := range []api.Addr{0, 8, 1084, 1089, 1<<40 + 64, 1<<64 - 64} {
		if n, e := fast.Apply(b, whole()); n != (api.Node{}) || e != api.ErrArg {
			t.Error(b, n, e)
		}
		if n, e := fast.Apply(b, whole(), api.Put{At: b + 8}); n != (api.Node{}) || e != api.ErrArg {
			t.Error(b, n, e)
		}
	}
}

// P9.2 (Apply): a node that may not be is one like others; the stores that are handed in stay.
func TestApplyAnyNode(t *testing.T) {
	for _, n := range []api.Node{{}, {Level: -1}, {Level: 16, First: 0}, torn(torn(leaf(), 1), 0)} {
		want := n
		want.Low = 3
		l := puts(1096, 3)
		if got, e := fast.Apply(base, n, l...); got != want || e != api.OK || !slices.Equal(l, puts(1096, 3)) {
			t.Error(got, e, l)
		}
	}
}
