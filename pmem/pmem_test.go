package pmem_test

import (
	"bytes"
	"math"
	"slices"
	"testing"

	"levee/api"
	"levee/pmem"
)

// fresh is a memory of noughts.
func fresh(t *testing.T, size int) *pmem.Mem {
	t.Helper()
	m, e := pmem.New(size)
	if e != api.OK || m == nil {
		t.Fatalf("New(%d): %v, %v", size, m, e)
	}
	return m
}

// store puts words at addresses: an address, a word, and so on.
func store(t *testing.T, m *pmem.Mem, l ...uint64) {
	t.Helper()
	for i := 0; i < len(l); i += 2 {
		if e := m.Store(api.Addr(l[i]), l[i+1]); e != api.OK {
			t.Fatalf("Store(%d, %d): %v", l[i], l[i+1], e)
		}
	}
}

func flush(t *testing.T, m *pmem.Mem, client int, a api.Addr) {
	t.Helper()
	if e := m.Flush(client, a); e != api.OK {
		t.Fatalf("Flush(%d, %d): %v", client, a, e)
	}
}

func fence(t *testing.T, m *pmem.Mem, client int) {
	t.Helper()
	if e := m.Fence(client); e != api.OK {
		t.Fatalf("Fence(%d): %v", client, e)
	}
}

func evict(t *testing.T, m *pmem.Mem, a api.Addr, n, want int) {
	t.Helper()
	if x, e := m.Evict(a, n); e != api.OK || x != want {
		t.Fatalf("Evict(%d, %d): %d, %v, not %d", a, n, x, e, want)
	}
}

// wordsAre holds bytes against words: an address, a word, and so on; all others are 0.
func wordsAre(t *testing.T, what string, b []byte, l ...uint64) {
	t.Helper()
	want := make([]byte, len(b))
	for i := 0; i < len(l); i += 2 {
		for j := range 8 {
			want[int(l[i])+j] = byte(l[i+1] >> (8 * j))
		}
	}
	if !bytes.Equal(b, want) {
		t.Fatalf("%s: %v, not %v", what, b, want)
	}
}

// wrongSizes are those that no memory has.
func wrongSizes() []int {
	return []int{math.MinInt, -api.MaxMem, -64, -1, 0, 1, 8, 56, 63, 65, 72, 100, 127, 129, api.MaxMem - 1, api.MaxMem - 8, api.MaxMem + 1, api.MaxMem + 8, api.MaxMem + 64, 2 * api.MaxMem, math.MaxInt - 63, math.MaxInt}
}

// wrongPlaces are addresses at which no word of a memory of so many bytes stands.
func wrongPlaces(size int) []api.Addr {
	n := api.Addr(size)
	return []api.Addr{1, 4, 7, 9, 63, 65, n - 1, n - 4, n - 7, n, n + 1, n + 8, n + 64, 1 << 31, 1 << 32, 1 << 63, 1<<63 + 8, math.MaxUint64 - 7, math.MaxUint64}
}

func wrongClients() []int {
	return []int{math.MinInt, -65, -1, api.System + 1, api.System + 2, 1 << 32, math.MaxInt}
}

// P2.1: New is of noughts, of each size that may be.
func TestNew(t *testing.T) {
	for _, size := range []int{64, 128, 192, 1024, 66560, api.MaxMem - 64, api.MaxMem} {
		m := fresh(t, size)
		if m.Size() != size {
			t.Errorf("New(%d): size %d", size, m.Size())
		}
		wordsAre(t, "image", m.Image())
		wordsAre(t, "view", m.View())
		if len(m.Image()) != size || len(m.View()) != size || len(m.Lines()) != 0 || m.Stats() != (api.Stats{}) {
			t.Errorf("New(%d): %d, %d, %v, %v", size, len(m.Image()), len(m.View()), m.Lines(), m.Stats())
		}
		for _, a := range []api.Addr{0, 8, 56, api.Addr(size - 8)} {
			if w, e := m.Load(a); w != 0 || e != api.OK {
				t.Errorf("New(%d), Load(%d): %d, %v", size, a, w, e)
			}
		}
	}
	for _, size := range wrongSizes() {
		if m, e := pmem.New(size); m != nil || e != api.ErrArg {
			t.Errorf("New(%d): %v, %v", size, m, e)
		}
	}
}

// P2.1: Of has the bytes, all of which have lasted, and keeps none of them.
func TestOf(t *testing.T) {
	image := make([]byte, 192)
	for i := range image {
		image[i] = byte(7*i + 3)
	}
	kept := slices.Clone(image)
	m, e := pmem.Of(image)
	if e != api.OK {
		t.Fatal(e)
	}
	for i := range image {
		image[i] = 0
	}
	if !bytes.Equal(m.Image(), kept) || !bytes.Equal(m.View(), kept) || m.Size() != 192 {
		t.Error(m.Image(), m.View(), m.Size())
	}
	if len(m.Lines()) != 0 || m.Stats() != (api.Stats{}) {
		t.Error(m.Lines(), m.Stats())
	}
	for a := 0; a < 192; a += 8 {
		var want uint64
		for j := 7; j >= 0; j-- {
			want = want<<8 | uint64(kept[a+j])
		}
		if w, e := m.Load(api.Addr(a)); e != api.OK || w != want {
			t.Errorf("Load(%d): %#x, %v, not %#x", a, w, e, want)
		}
	}
	m.Crash()
	if !bytes.Equal(m.Image(), kept) || !bytes.Equal(m.View(), kept) {
		t.Error("a crash lost what Of was handed")
	}
}

// P2.1: Of refuses bytes of a length that no memory has.
func TestOfWrong(t *testing.T) {
	if m, e := pmem.Of(nil); m != nil || e != api.ErrArg {
		t.Error(m, e)
	}
	for _, size := range wrongSizes() {
		if size < 0 || size > 2*api.MaxMem {
			continue
		}
		if m, e := pmem.Of(make([]byte, size)); m != nil || e != api.ErrArg {
			t.Errorf("Of %d bytes: %v, %v", size, m, e)
		}
	}
	if m, e := pmem.Of(make([]byte, api.MaxMem)); e != api.OK || m.Size() != api.MaxMem {
		t.Error(e)
	}
}

// P2.1: Load tells what was stored last, whether or not it has lasted; no other word is touched.
func TestLoadStore(t *testing.T) {
	m := fresh(t, 128)
	for a := uint64(0); a < 128; a += 8 {
		store(t, m, a, a+1)
		store(t, m, a, math.MaxUint64-a)
	}
	for a := uint64(0); a < 128; a += 8 {
		if w, e := m.Load(api.Addr(a)); e != api.OK || w != math.MaxUint64-a {
			t.Errorf("Load(%d): %#x, %v", a, w, e)
		}
	}
	wordsAre(t, "image", m.Image())
	if m.Pending(0) != 16 || m.Pending(64) != 16 {
		t.Error(m.Pending(0), m.Pending(64))
	}
	m = fresh(t, 128)
	store(t, m, 56, 0x0102030405060708)
	wordsAre(t, "view", m.View(), 56, 0x0102030405060708)
	if b := m.View(); b[56] != 8 || b[63] != 1 {
		t.Error("the lowest byte is not the first one", b[56:64])
	}
}

// P2.1: a store of the word that is there is pending, too.
func TestStoreSame(t *testing.T) {
	m := fresh(t, 64)
	store(t, m, 8, 0, 8, 0)
	if m.Pending(0) != 2 || !slices.Equal(m.Lines(), []api.Addr{0}) {
		t.Error(m.Pending(0), m.Lines())
	}
	store(t, m, 8, 1)
	evict(t, m, 0, 2, 2)
	wordsAre(t, "image", m.Image())
	evict(t, m, 0, 1, 1)
	wordsAre(t, "image", m.Image(), 8, 1)
}

// P2.1, P2.3: an address that is no word's is refused, and nothing changes.
func TestPlaces(t *testing.T) {
	m := fresh(t, 128)
	store(t, m, 0, 1, 120, 2)
	flush(t, m, 3, 0)
	was, stats := m.Copy(), m.Stats()
	for _, a := range wrongPlaces(128) {
		if w, e := m.Load(a); w != 0 || e != api.ErrRange {
			t.Errorf("Load(%d): %d, %v", a, w, e)
		}
		if e := m.Store(a, 9); e != api.ErrRange {
			t.Errorf("Store(%d): %v", a, e)
		}
		if e := m.Flush(3, a); e != api.ErrRange {
			t.Errorf("Flush(%d): %v", a, e)
		}
		if n, e := m.Evict(a, 1); n != 0 || e != api.ErrRange {
			t.Errorf("Evict(%d): %d, %v", a, n, e)
		}
		if n := m.Pending(a); n != 0 {
			t.Errorf("Pending(%d): %d", a, n)
		}
	}
	if !m.Same(was) || m.Stats() != stats {
		t.Error("what was refused changed the memory", m.Stats(), stats)
	}
	for _, a := range []api.Addr{0, 56, 64, 120} {
		if _, e := m.Load(a); e != api.OK {
			t.Errorf("Load(%d): %v", a, e)
		}
		if e := m.Store(a, 9); e != api.OK {
			t.Errorf("Store(%d): %v", a, e)
		}
		if e := m.Flush(3, a); e != api.OK {
			t.Errorf("Flush(%d): %v", a, e)
		}
		if _, e := m.Evict(a, 0); e != api.OK {
			t.Errorf("Evict(%d): %v", a, e)
		}
	}
}

// P2.2, P2.3: a client, a number that may not be is refused ahead of the address, and nothing changes.
func TestArgs(t *testing.T) {
	m := fresh(t, 128)
	store(t, m, 0, 1, 64, 2)
	flush(t, m, 0, 0)
	flush(t, m, api.System, 64)
	was, stats := m.Copy(), m.Stats()
	for _, c := range wrongClients() {
		for _, a := range []api.Addr{0, 8, 64, 1, 128, math.MaxUint64} {
			if e := m.Flush(c, a); e != api.ErrArg {
				t.Errorf("Flush(%d, %d): %v", c, a, e)
			}
		}
		if e := m.Fence(c); e != api.ErrArg {
			t.Errorf("Fence(%d): %v", c, e)
		}
	}
	for _, n := range []int{-1, -2, math.MinInt} {
		for _, a := range []api.Addr{0, 8, 64, 1, 128, math.MaxUint64} {
			if x, e := m.Evict(a, n); x != 0 || e != api.ErrArg {
				t.Errorf("Evict(%d, %d): %d, %v", a, n, x, e)
			}
		}
	}
	if !m.Same(was) || m.Stats() != stats {
		t.Error("what was refused changed the memory", m.Stats(), stats)
	}
}

// P2.2: each client from 0 to System marks and fences.
func TestClients(t *testing.T) {
	for c := 0; c <= api.System; c++ {
		m := fresh(t, 64)
		store(t, m, 0, 1)
		flush(t, m, c, 0)
		for o := 0; o <= api.System; o++ {
			if o != c {
				fence(t, m, o)
			}
		}
		wordsAre(t, "image", m.Image())
		fence(t, m, c)
		wordsAre(t, "image", m.Image(), 0, 1)
	}
}

// P2.2: a fence lets last what was pending at the flush, of that line, and no more.
func TestFlush(t *testing.T) {
	m := fresh(t, 192)
	store(t, m, 64, 1, 120, 2, 0, 3, 128, 4, 64, 5)
	flush(t, m, 7, 96)
	wordsAre(t, "image", m.Image())
	store(t, m, 64, 6, 72, 7)
	fence(t, m, 7)
	wordsAre(t, "image", m.Image(), 64, 5, 120, 2)
	wordsAre(t, "view", m.View(), 64, 6, 72, 7, 120, 2, 0, 3, 128, 4)
	if m.Pending(64) != 2 || m.Pending(0) != 1 || m.Pending(128) != 1 {
		t.Error(m.Pending(64), m.Pending(0), m.Pending(128))
	}
	// What was marked is done with: a fence more lets nothing last.
	fence(t, m, 7)
	wordsAre(t, "image", m.Image(), 64, 5, 120, 2)
	// A flush more marks what came since, too.
	flush(t, m, 7, 64)
	store(t, m, 80, 8)
	flush(t, m, 7, 64)
	store(t, m, 80, 9)
	fence(t, m, 7)
	wordsAre(t, "image", m.Image(), 64, 6, 72, 7, 80, 8, 120, 2)
}

// P2.2: one fence lets last what was marked of several lines, and of no line that was not flushed.
func TestFenceLines(t *testing.T) {
	m := fresh(t, 1024)
	var want []uint64
	for a := uint64(0); a < 1024; a += 64 {
		store(t, m, a, a+1, a+56, a+2)
		if a%128 == 0 {
			flush(t, m, 2, api.Addr(a+8))
			want = append(want, a, a+1, a+56, a+2)
		}
	}
	fence(t, m, 2)
	wordsAre(t, "image", m.Image(), want...)
	if len(m.Lines()) != 8 || m.Lines()[0] != 64 {
		t.Error(m.Lines())
	}
}

// P2.2: a flush of a line in which nothing is pending marks nothing.
func TestFlushNothing(t *testing.T) {
	m := fresh(t, 64)
	flush(t, m, 0, 0)
	if !m.Same(fresh(t, 64)) {
		t.Error("a mark of nothing counts")
	}
	store(t, m, 0, 1)
	fence(t, m, 0)
	wordsAre(t, "image", m.Image())
	if m.Pending(0) != 1 {
		t.Error(m.Pending(0))
	}
}

// P2.2: clients mark apart; what has lasted by one is marked by none any more.
func TestMarksApart(t *testing.T) {
	m := fresh(t, 64)
	store(t, m, 0, 1, 8, 2)
	flush(t, m, 0, 0)
	store(t, m, 16, 3)
	flush(t, m, 1, 0)
	store(t, m, 24, 4)
	both := m.Copy()
	fence(t, m, 0)
	wordsAre(t, "image", m.Image(), 0, 1, 8, 2)
	fence(t, m, 1)
	wordsAre(t, "image", m.Image(), 0, 1, 8, 2, 16, 3)
	if m.Pending(0) != 1 {
		t.Error(m.Pending(0))
	}
	fence(t, both, 1)
	store(t, both, 32, 5)
	fence(t, both, 0)
	wordsAre(t, "image", both.Image(), 0, 1, 8, 2, 16, 3)
	if both.Pending(0) != 2 {
		t.Error(both.Pending(0))
	}
}

// P2.2, P2.3: what was evicted is marked by nobody any more.
func TestEvictMarked(t *testing.T) {
	m := fresh(t, 64)
	store(t, m, 0, 1, 8, 2, 16, 3)
	flush(t, m, 5, 0)
	store(t, m, 24, 4, 32, 5)
	evict(t, m, 56, 2, 2)
	fence(t, m, 5)
	wordsAre(t, "image", m.Image(), 0, 1, 8, 2, 16, 3)
	flush(t, m, 5, 0)
	evict(t, m, 0, 3, 2)
	store(t, m, 40, 6)
	fence(t, m, 5)
	wordsAre(t, "image", m.Image(), 0, 1, 8, 2, 16, 3, 24, 4, 32, 5)
}

// P2.3: Evict lets the elder stores last, all if there are not so many, of that line alone.
func TestEvict(t *testing.T) {
	m := fresh(t, 128)
	store(t, m, 0, 1, 64, 9, 0, 2, 8, 3, 0, 4)
	evict(t, m, 0, 0, 0)
	wordsAre(t, "image", m.Image())
	evict(t, m, 8, 1, 1)
	wordsAre(t, "image", m.Image(), 0, 1)
	evict(t, m, 56, 2, 2)
	wordsAre(t, "image", m.Image(), 0, 2, 8, 3)
	wordsAre(t, "view", m.View(), 0, 4, 8, 3, 64, 9)
	evict(t, m, 0, math.MaxInt, 1)
	wordsAre(t, "image", m.Image(), 0, 4, 8, 3)
	evict(t, m, 0, 5, 0)
	if m.Pending(0) != 0 || m.Pending(64) != 1 {
		t.Error(m.Pending(0), m.Pending(64))
	}
}

// P2.3: Crash reads keep's numbers by the lines that are pending, round and round, each modulo one more than are pending.
func TestCrash(t *testing.T) {
	for _, c := range []struct {
		keep []int
		want [3]int // how many stores of the lines 0, 128, 256
	}{
		{nil, [3]int{}},
		{[]int{0}, [3]int{}},
		{[]int{1}, [3]int{1, 1, 1}},
		{[]int{2}, [3]int{0, 2, 2}},
		{[]int{3}, [3]int{1, 0, 3}},
		{[]int{4}, [3]int{0, 1, 0}},
		{[]int{1, 2, 3}, [3]int{1, 2, 3}},
		{[]int{0, 1}, [3]int{0, 1, 0}},
		{[]int{1, 0}, [3]int{1, 0, 1}},
		{[]int{0, 0, 3, 9, 9}, [3]int{0, 0, 3}},
		{[]int{-1, 2, -5}, [3]int{0, 2, 0}},
		{[]int{math.MinInt}, [3]int{}},
		{[]int{math.MaxInt}, [3]int{math.MaxInt % 2, math.MaxInt % 3, math.MaxInt % 4}},
	} {
		m := fresh(t, 320)
		store(t, m, 256, 1, 128, 2, 256, 3, 0, 4, 136, 5, 264, 6)
		flush(t, m, 0, 256)
		m.Crash(c.keep...)
		var want []uint64
		for i, l := range [][]uint64{{0, 4}, {128, 2, 136, 5}, {256, 1, 256, 3, 264, 6}} {
			want = append(want, l[:2*c.want[i]]...)
		}
		wordsAre(t, "image", m.Image(), want...)
		wordsAre(t, "view", m.View(), want...)
		if len(m.Lines()) != 0 || m.Pending(0)+m.Pending(128)+m.Pending(256) != 0 {
			t.Error(c.keep, m.Lines())
		}
		// Nothing is marked any more.
		store(t, m, 256, 7, 264, 8, 272, 9)
		fence(t, m, 0)
		wordsAre(t, "image", m.Image(), want...)
	}
}

// P2.3: a crash leaves what has lasted ahead of it, and does not change the numbers it is handed.
func TestCrashLasted(t *testing.T) {
	m := fresh(t, 128)
	store(t, m, 0, 1, 64, 2)
	evict(t, m, 64, 1, 1)
	store(t, m, 64, 3, 72, 4)
	keep := []int{-3, 7}
	m.Crash(keep...)
	wordsAre(t, "image", m.Image(), 64, 3)
	wordsAre(t, "view", m.View(), 64, 3)
	if keep[0] != -3 || keep[1] != 7 {
		t.Error(keep)
	}
	m.Crash(1, 2, 3)
	wordsAre(t, "image", m.Image(), 64, 3)
}

// P2.3: a copy that was marked, crashed, is one of its image.
func TestCrashSame(t *testing.T) {
	m := fresh(t, 128)
	store(t, m, 0, 1, 64, 2, 64, 3)
	flush(t, m, 1, 0)
	flush(t, m, 2, 64)
	m.Crash(0, 1)
	o, e := pmem.Of(m.Image())
	if e != api.OK || !m.Same(o) {
		t.Error(m.Image(), e)
	}
}

// P2.4: Pending and Lines tell what is pending, at any word of a line, rising.
func TestPending(t *testing.T) {
	m := fresh(t, 256)
	store(t, m, 200, 1, 8, 2, 192, 3, 248, 4, 64, 5)
	if l := m.Lines(); !slices.Equal(l, []api.Addr{0, 64, 192}) {
		t.Error(l)
	}
	m.Lines()[0] = 99
	for a := api.Addr(0); a < 256; a += 8 {
		want := []int{1, 1, 0, 3}[a/64]
		if n := m.Pending(a); n != want {
			t.Errorf("Pending(%d): %d, not %d", a, n, want)
		}
	}
	evict(t, m, 64, 1, 1)
	flush(t, m, 0, 0)
	if l := m.Lines(); !slices.Equal(l, []api.Addr{0, 192}) {
		t.Error(l)
	}
	fence(t, m, 0)
	if l := m.Lines(); !slices.Equal(l, []api.Addr{192}) {
		t.Error(l)
	}
}

// P2.4: Image and View are new bytes each time.
func TestBytesApart(t *testing.T) {
	m := fresh(t, 64)
	store(t, m, 0, 1)
	image, view := m.Image(), m.View()
	image[0], view[0] = 77, 88
	wordsAre(t, "image", m.Image())
	wordsAre(t, "view", m.View(), 0, 1)
	store(t, m, 0, 2)
	if image[0] != 77 || view[0] != 88 {
		t.Error("what was answered goes on with the memory")
	}
}

// P2.4: Stats counts each kind apart, and nothing that was refused; no crash, eviction or look counts, or takes any back.
func TestStats(t *testing.T) {
	m := fresh(t, 64)
	count := func(want api.Stats) {
		t.Helper()
		if s := m.Stats(); s != want {
			t.Fatal(s, want)
		}
	}
	m.Load(0)
	count(api.Stats{Loads: 1})
	store(t, m, 8, 1, 8, 1)
	count(api.Stats{Loads: 1, Stores: 2})
	for range 3 {
		flush(t, m, 0, 0)
	}
	count(api.Stats{Loads: 1, Stores: 2, Flushes: 3})
	for range 4 {
		fence(t, m, 9)
	}
	want := api.Stats{Loads: 1, Stores: 2, Flushes: 3, Fences: 4}
	count(want)
	m.Load(1)
	m.Load(64)
	m.Store(1, 1)
	m.Store(64, 1)
	m.Flush(-1, 0)
	m.Flush(65, 0)
	m.Flush(0, 64)
	m.Fence(-1)
	m.Fence(65)
	evict(t, m, 0, 1, 1)
	m.Image()
	m.View()
	m.Lines()
	m.Pending(0)
	count(want)
	if s := m.Copy().Stats(); s != want {
		t.Error(s)
	}
	m.Crash(1)
	count(want)
	m.Load(0)
	count(api.Stats{Loads: 2, Stores: 2, Flushes: 3, Fences: 4})
}

// P2.5: a copy is the same, and goes on apart, in all that it has.
func TestCopy(t *testing.T) {
	m := fresh(t, 128)
	store(t, m, 0, 1, 8, 2, 64, 3)
	flush(t, m, 0, 0)
	store(t, m, 0, 4)
	change := []func(*pmem.Mem){
		func(x *pmem.Mem) { store(t, x, 0, 9) },
		func(x *pmem.Mem) { store(t, x, 64, 9) },
		func(x *pmem.Mem) { store(t, x, 72, 9) },
		func(x *pmem.Mem) { flush(t, x, 0, 0) },
		func(x *pmem.Mem) { flush(t, x, 1, 0) },
		func(x *pmem.Mem) { flush(t, x, 0, 64) },
		func(x *pmem.Mem) { fence(t, x, 0) },
		func(x *pmem.Mem) { evict(t, x, 0, 1, 1) },
		func(x *pmem.Mem) { evict(t, x, 64, 1, 1) },
		func(x *pmem.Mem) { x.Crash(1) },
	}
	still := func(x *pmem.Mem) {
		t.Helper()
		wordsAre(t, "image", x.Image())
		wordsAre(t, "view", x.View(), 0, 4, 8, 2, 64, 3)
		if x.Pending(0) != 3 || x.Pending(64) != 1 {
			t.Error(x.Pending(0), x.Pending(64))
		}
		y := x.Copy()
		fence(t, y, 1)
		wordsAre(t, "image", y.Image())
		fence(t, y, 0)
		wordsAre(t, "image", y.Image(), 0, 1, 8, 2)
	}
	for i, f := range change {
		x, y := m.Copy(), m.Copy()
		if !x.Same(m) || !m.Same(x) || x == m {
			t.Fatal("a copy is not the same", i)
		}
		f(x)
		still(y)
		still(m)
		if x.Same(m) || m.Same(x) {
			t.Error("another one is the same", i)
		}
		f(y)
		if !x.Same(y) {
			t.Error("the same done to both leaves them not the same", i)
		}
	}
}

// P2.5: two copies store behind the same front apart.
func TestCopyAppend(t *testing.T) {
	for n := range 20 {
		m := fresh(t, 64)
		for i := range n {
			store(t, m, 0, uint64(i+1))
		}
		evict(t, m, 0, n/2, n/2)
		x, y := m.Copy(), m.Copy()
		store(t, m, 8, 1)
		store(t, x, 8, 2)
		store(t, y, 8, 3)
		for i, z := range []*pmem.Mem{m, x, y} {
			evict(t, z, 0, 99, n-n/2+1)
			wordsAre(t, "image", z.Image(), 0, uint64(n), 8, uint64(i+1))
		}
	}
}

// P2.5: Same looks at the view, at what has lasted, at what is pending and its order, and at the marks of each client; not at Stats.
func TestSame(t *testing.T) {
	with := func(size int, f func(*pmem.Mem)) *pmem.Mem {
		m := fresh(t, size)
		f(m)
		return m
	}
	unlike := []*pmem.Mem{
		with(64, func(m *pmem.Mem) {}),
		with(128, func(m *pmem.Mem) {}),
		with(128, func(m *pmem.Mem) { store(t, m, 0, 0) }),
		with(128, func(m *pmem.Mem) { store(t, m, 64, 0) }),
		with(128, func(m *pmem.Mem) { store(t, m, 8, 0) }),
		with(128, func(m *pmem.Mem) { store(t, m, 0, 0, 0, 0) }),
		with(128, func(m *pmem.Mem) { store(t, m, 0, 1) }),
		with(128, func(m *pmem.Mem) { store(t, m, 0, 1); m.Evict(0, 1) }),
		with(128, func(m *pmem.Mem) { store(t, m, 0, 1); m.Evict(0, 1); store(t, m, 0, 1) }),
		with(128, func(m *pmem.Mem) { store(t, m, 0, 1, 8, 2) }),
		with(128, func(m *pmem.Mem) { store(t, m, 8, 2, 0, 1) }),
		with(128, func(m *pmem.Mem) { store(t, m, 0, 7, 8, 2, 0, 1) }),
		with(128, func(m *pmem.Mem) { store(t, m, 0, 1, 8, 2); m.Evict(0, 1) }),
		with(128, func(m *pmem.Mem) { store(t, m, 0, 1, 8, 2); m.Flush(0, 0) }),
		with(128, func(m *pmem.Mem) { store(t, m, 0, 1, 8, 2); m.Flush(1, 0) }),
		with(128, func(m *pmem.Mem) { store(t, m, 0, 1, 8, 2); m.Flush(0, 0); m.Flush(1, 0) }),
		with(128, func(m *pmem.Mem) { store(t, m, 0, 1); m.Flush(0, 0); store(t, m, 8, 2) }),
		with(128, func(m *pmem.Mem) { store(t, m, 0, 1, 8, 2); m.Flush(api.System, 0) }),
	}
	for i, x := range unlike {
		for j, y := range unlike {
			if x.Same(y) != (i == j) {
				t.Error(i, j, x.Same(y))
			}
		}
	}
}

// P2.5: ways that leave the same are the same, whatever was done on them.
func TestSameWays(t *testing.T) {
	x, y := fresh(t, 128), fresh(t, 128)
	store(t, x, 0, 1, 64, 2, 8, 3)
	flush(t, x, 4, 0)
	store(t, x, 16, 5)
	fence(t, x, 4)
	store(t, y, 64, 2, 0, 9, 8, 3, 0, 1, 16, 5)
	evict(t, y, 0, 3, 3)
	y.Load(0)
	if !x.Same(y) || !y.Same(x) || x.Stats() == y.Stats() {
		t.Error(x.View(), y.View(), x.Image(), y.Image())
	}
	// Marks that are used up are as if they had never been.
	flush(t, x, 4, 0)
	evict(t, x, 0, 1, 1)
	evict(t, y, 0, 1, 1)
	if !x.Same(y) {
		t.Error("a mark of nothing counts")
	}
	store(t, x, 64, 7)
	flush(t, x, 2, 64)
	x.Crash(1)
	y.Crash(1)
	if !x.Same(y) {
		t.Error("a mark ahead of a crash counts")
	}
}

// The rules: a nil memory, and a zero one, is ErrNil ahead of all else, and there is nothing of it.
func TestNone(t *testing.T) {
	for _, m := range []*pmem.Mem{nil, {}} {
		for _, a := range []api.Addr{0, 8, 1, math.MaxUint64} {
			if w, e := m.Load(a); w != 0 || e != api.ErrNil {
				t.Error(w, e)
			}
			if e := m.Store(a, 1); e != api.ErrNil {
				t.Error(e)
			}
			for _, c := range []int{-1, 0, 64, 65} {
				if e := m.Flush(c, a); e != api.ErrNil {
					t.Error(e)
				}
				if e := m.Fence(c); e != api.ErrNil {
					t.Error(e)
				}
				if n, e := m.Evict(a, c); n != 0 || e != api.ErrNil {
					t.Error(n, e)
				}
			}
			if n := m.Pending(a); n != 0 {
				t.Error(n)
			}
		}
		m.Crash()
		m.Crash(1, 2)
		if m.Lines() != nil || m.Image() != nil || m.View() != nil || m.Size() != 0 || m.Stats() != (api.Stats{}) || m.Copy() != nil {
			t.Error(m.Lines(), m.Image(), m.View(), m.Size(), m.Stats(), m.Copy())
		}
		there := fresh(t, 64)
		if !m.Same(nil) || !m.Same(&pmem.Mem{}) || m.Same(there) || there.Same(m) {
			t.Error("none is the same as one that is there, or not as none")
		}
	}
}

// The chapter's examples.
func TestExamples(t *testing.T) {
	m := fresh(t, 128)
	store(t, m, 0, 1, 8, 2)
	flush(t, m, 0, 0)
	store(t, m, 0, 3)
	fence(t, m, 0)
	wordsAre(t, "image", m.Image(), 0, 1, 8, 2)
	wordsAre(t, "view", m.View(), 0, 3, 8, 2)
	if m.Pending(8) != 1 {
		t.Error(m.Pending(8))
	}
	store(t, m, 64, 5)
	m.Crash(0, 1)
	wordsAre(t, "image", m.Image(), 0, 1, 8, 2, 64, 5)
	wordsAre(t, "view", m.View(), 0, 1, 8, 2, 64, 5)
}
