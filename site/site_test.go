package site_test

import (
	"bytes"
	"math"
	"testing"

	"levee/api"
	"levee/lock"
	"levee/pmem"
	"levee/site"
	"levee/slab"
)

// memory is a memory of an image.
func memory(t *testing.T, image []byte) *pmem.Mem {
	t.Helper()
	m, e := pmem.Of(image)
	if e != api.OK {
		t.Fatal("pmem.Of:", e)
	}
	return m
}

// blocks are the blocks of an image.
func blocks(t *testing.T, image []byte) *slab.Slab {
	t.Helper()
	s, e := slab.Of(image)
	if e != api.OK {
		t.Fatal("slab.Of:", e)
	}
	return s
}

// imageOf is an arena of so many slabs; of the slab 1 some blocks are in use.
func imageOf(slabs int) []byte {
	image := make([]byte, 1024*(1+slabs))
	image[1024], image[1032] = 1, 0x15
	image[1088], image[1500] = 7, 9
	return image
}

// siteOf is a site of an image.
func siteOf(t *testing.T, image []byte, clients int) *site.Site {
	t.Helper()
	x, e := site.New(memory(t, image), blocks(t, image), clients)
	if e != api.OK || x == nil {
		t.Fatal("New:", x, e)
	}
	return x
}

// nobody says whether nobody has a lock, or waits for one.
func nobody(t *lock.Table) bool {
	none, e := lock.New(t.Clients())
	return e == api.OK && t.Same(none)
}

// refused holds New against an error, beside which there is no site.
func refused(t *testing.T, m *pmem.Mem, s *slab.Slab, clients int, want api.Errno) {
	t.Helper()
	if x, e := site.New(m, s, clients); x != nil || e != want {
		t.Errorf("New of %d bytes, %d slabs, %d clients: %v, %d, not %d", m.Size(), s.Slabs(), clients, x, e, want)
	}
}

// P13.1, P13.2: a site of every arena, and of every number of clients, has what was handed in, itself, and locks that nobody has.
func TestNew(t *testing.T) {
	for slabs := 1; slabs <= api.MaxSlabs; slabs++ {
		image := imageOf(slabs)
		for _, clients := range []int{1, 2, slabs, api.MaxClients - 1, api.MaxClients} {
			m, s := memory(t, image), blocks(t, image)
			x, e := site.New(m, s, clients)
			if e != api.OK || x == nil {
				t.Fatalf("%d slabs, %d clients: %v, %d", slabs, clients, x, e)
			}
			if x.Mem() != m || x.Slab() != s {
				t.Errorf("%d slabs, %d clients: other objects than were handed in", slabs, clients)
			}
			if x.Clients() != clients || x.Locks().Clients() != clients || !nobody(x.Locks()) {
				t.Errorf("%d slabs, %d clients: %d, %d clients, or locks that somebody has", slabs, clients, x.Clients(), x.Locks().Clients())
			}
		}
	}
}

// P13.1: every number of clients, and those that may not be.
func TestNewClients(t *testing.T) {
	m, s := memory(t, imageOf(2)), blocks(t, imageOf(2))
	for clients := -70; clients <= 200; clients++ {
		if clients < 1 || clients > api.MaxClients {
			refused(t, m, s, clients, api.ErrArg)
			continue
		}
		x, e := site.New(m, s, clients)
		if e != api.OK || x.Clients() != clients || x.Locks().Clients() != clients || !nobody(x.Locks()) {
			t.Errorf("%d clients: %v, %d", clients, x, e)
		}
	}
	for _, clients := range []int{math.MinInt, math.MinInt + 1, -1 << 32, 1 << 32, 1<<32 + 1, math.MaxInt} {
		refused(t, m, s, clients, api.ErrArg)
	}
}

// P13.1: blocks of an arena, and memories of its size, of sizes next to it, and of no arena's.
func TestNewSizes(t *testing.T) {
	for slabs := 1; slabs <= api.MaxSlabs; slabs++ {
		s := blocks(t, imageOf(slabs))
		for _, size := range []int{64, 1024, 1024 * slabs, 1024*slabs + 960, 1024*slabs + 1024, 1024*slabs + 1088, 1024*slabs + 2048, 1024 * 65, 1024 * 66, api.MaxMem} {
			m, e := pmem.New(size)
			if e != api.OK {
				t.Fatal(size, e)
			}
			if size != 1024*slabs+1024 {
				refused(t, m, s, 1, api.ErrArg)
				continue
			}
			if x, e := site.New(m, s, 1); e != api.OK || x.Mem() != m || x.Slab() != s {
				t.Errorf("%d bytes, %d slabs: %v, %d", size, slabs, x, e)
			}
		}
	}
}

// The chapter's Errors: what there is not comes ahead of what may not be.
func TestNewNone(t *testing.T) {
	m, s := memory(t, imageOf(2)), blocks(t, imageOf(2))
	other, e := pmem.New(64)
	if e != api.OK {
		t.Fatal(e)
	}
	for _, clients := range []int{math.MinInt, -1, 0, 1, api.MaxClients, api.MaxClients + 1, math.MaxInt} {
		for _, none := range []*pmem.Mem{nil, {}} {
			refused(t, none, s, clients, api.ErrNil)
			refused(t, none, nil, clients, api.ErrNil)
			refused(t, none, &slab.Slab{}, clients, api.ErrNil)
		}
		for _, none := range []*slab.Slab{nil, {}} {
			refused(t, m, none, clients, api.ErrNil)
			refused(t, other, none, clients, api.ErrNil)
		}
	}
}

// P13.1: New changes nothing of what it is handed, whether it is refused or not.
func TestNewLooksOnly(t *testing.T) {
	image := imageOf(3)
	m, s := memory(t, image), blocks(t, image)
	m.Store(1088, 5)
	m.Flush(3, 1088)
	m.Store(2048, 9)
	a, _ := s.Reserve(2)
	was, stats, room := m.Copy(), m.Stats(), s.Room(2)
	for _, clients := range []int{0, 1, 64, 65} {
		site.New(m, s, clients)
		site.New(m, blocks(t, imageOf(2)), clients)
		site.New(memory(t, imageOf(2)), s, clients)
	}
	if !m.Same(was) || m.Stats() != stats {
		t.Error("the memory is another one")
	}
	if s.Is(a) != 1 || s.Room(2) != room || s.Slabs() != 3 || len(s.Used()) != 3 {
		t.Error("the blocks are others")
	}
}

// P13.1: sites of the same objects have locks of their own.
func TestLocksApart(t *testing.T) {
	m, s := memory(t, imageOf(1)), blocks(t, imageOf(1))
	x, _ := site.New(m, s, 2)
	x.Locks().Try(0, 1088)
	y, _ := site.New(m, s, 2)
	if x.Locks() == y.Locks() || !nobody(y.Locks()) || !y.Locks().Try(1, 1088) {
		t.Error("the locks of one site are those of another one")
	}
	if c, held := x.Locks().Holder(1088); c != 0 || !held {
		t.Error("a new site has changed an elder one's locks:", c, held)
	}
}

// P13.2: each look tells the same objects each time, and how many clients there are does not hang on what is done.
func TestLooks(t *testing.T) {
	x := siteOf(t, imageOf(2), 3)
	m, s, l := x.Mem(), x.Slab(), x.Locks()
	l.Try(0, 1088)
	l.Try(1, 1088)
	m.Store(1088, 5)
	s.Reserve(1)
	site.Drop(x, 0)
	if x.Mem() != m || x.Slab() != s || x.Locks() != l || x.Clients() != 3 {
		t.Error("looks tell other objects")
	}
}

// P13.2, P13.4: of no site, and of a zero one, nothing.
func TestNoSite(t *testing.T) {
	for _, x := range []*site.Site{nil, {}, new(site.Site)} {
		if x.Mem() != nil || x.Slab() != nil || x.Locks() != nil || x.Clients() != 0 {
			t.Errorf("%v: %v, %v, %v, %d", x, x.Mem(), x.Slab(), x.Locks(), x.Clients())
		}
		for _, c := range []int{-1, 0, 63, 64, math.MinInt, math.MaxInt} {
			site.Drop(x, c)
		}
		if x != nil && *x != (site.Site{}) {
			t.Error("Drop has changed a zero site")
		}
	}
}

// P13.4: of every client that is dropped: it has no locks and waits for none; all others have, and wait for, what they did.
func TestDrop(t *testing.T) {
	const clients = 4
	for c := -3; c <= clients+3; c++ {
		x := siteOf(t, imageOf(2), clients)
		l := x.Locks()
		for i := range clients {
			l.Try(i, api.Addr(64+64*i))
			l.Try(i, api.Addr(1024+64*i))
		}
		for i := range clients {
			l.Try(i, api.Addr(64+64*((i+1)%clients)))
		}
		was, mem := l.Copy(), x.Mem().Copy()
		site.Drop(x, c)
		for i := range clients {
			id, waits := l.Wants(i)
			if i == c {
				if len(l.Held(i)) != 0 || waits || id != 0 {
					t.Errorf("dropped, %d has %v, waits for %d", i, l.Held(i), id)
				}
				continue
			}
			want, _ := was.Wants(i)
			if len(l.Held(i)) != 2 || id != want || !waits {
				t.Errorf("as %d is dropped, %d has %v, waits for %d, not %d", c, i, l.Held(i), id, want)
			}
		}
		if (c < 0 || c >= clients) != l.Same(was) || !x.Mem().Same(mem) {
			t.Errorf("as %d is dropped, something else is otherwise", c)
		}
	}
}

// P13.4: what was dropped can be had by others, and by the same one anew; to drop who has nothing is nothing.
func TestDropAnew(t *testing.T) {
	x := siteOf(t, imageOf(2), 3)
	l := x.Locks()
	l.Try(0, 1088)
	l.Try(1, 1088)
	site.Drop(x, 0)
	if l.Runs(1) != 1 {
		t.Error("1 hangs on", l.Runs(1))
	}
	site.Drop(x, 1)
	if _, waits := l.Wants(1); waits || !nobody(l) {
		t.Error("1 waits")
	}
	site.Drop(x, 1)
	site.Drop(x, 2)
	for _, c := range []int{math.MinInt, -1, 3, 64, math.MaxInt} {
		site.Drop(x, c)
	}
	if !nobody(l) {
		t.Error("somebody has a lock")
	}
	if !l.Try(2, 1088) || l.Try(0, 1088) {
		t.Error("what was dropped is not free")
	}
}

// P13.5: what is done by way of the site is done to what was handed in, and the other way round.
func TestThrough(t *testing.T) {
	image := imageOf(2)
	m, s := memory(t, image), blocks(t, image)
	x, e := site.New(m, s, 2)
	if e != api.OK {
		t.Fatal(e)
	}
	x.Mem().Store(1152, 5)
	if w, _ := m.Load(1152); w != 5 || m.Pending(1152) != 1 || m.Stats().Stores != 1 {
		t.Error("a store to the site's memory is not seen:", w)
	}
	m.Flush(0, 1152)
	x.Mem().Fence(0)
	if m.Pending(1152) != 0 || x.Mem().Image()[1152] != 5 {
		t.Error("what lasts of one does not last of the other")
	}
	a, e := x.Slab().Reserve(1)
	if e != api.OK || s.Is(a) != 1 {
		t.Error("a block that the site reserved is not reserved:", a, e)
	}
	if e := s.Release(a); e != api.OK || x.Slab().Is(a) != 0 {
		t.Error("a block that was released is reserved in the site:", e)
	}
	m.Store(1152, 6)
	x.Mem().Crash()
	if w, _ := m.Load(1152); w != 5 || !bytes.Equal(m.Image(), x.Mem().View()) {
		t.Error("a crash of the one is none of the other:", w)
	}
}
