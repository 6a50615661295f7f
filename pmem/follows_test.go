package pmem_test

import (
	"bytes"
	"math"
	"slices"
	"testing"

	"levee/api"
	"levee/pmem"
)

// made is a store as the plain memory keeps it.
type made struct {
	at     api.Addr
	word   uint64
	lasted bool
	marks  map[int]bool
}

// plain is a memory told by the chapter's words: all that was ever stored since the last crash, each store with who marked it.
type plain struct {
	first []uint64
	made  []*made
	stats api.Stats
}

func (p *plain) line(a api.Addr) []*made {
	var l []*made
	for _, s := range p.made {
		if !s.lasted && s.at/64 == a/64 {
			l = append(l, s)
		}
	}
	return l
}

func (p *plain) lines() []api.Addr {
	var l []api.Addr
	for a := range len(p.first) / 8 {
		if at := api.Addr(64 * a); len(p.line(at)) > 0 {
			l = append(l, at)
		}
	}
	return l
}

// words are what there is of the stores that may count.
func (p *plain) words(counts func(*made) bool) []uint64 {
	l := slices.Clone(p.first)
	for _, s := range p.made {
		if counts(s) {
			l[s.at/8] = s.word
		}
	}
	return l
}

func (p *plain) view() []uint64 {
	return p.words(func(*made) bool { return true })
}

func (p *plain) image() []uint64 {
	return p.words(func(s *made) bool { return s.lasted })
}

func (p *plain) store(a api.Addr, w uint64) {
	p.made = append(p.made, &made{at: a, word: w, marks: map[int]bool{}})
	p.stats.Stores++
}

func (p *plain) flush(client int, a api.Addr) {
	for _, s := range p.line(a) {
		s.marks[client] = true
	}
	p.stats.Flushes++
}

func (p *plain) fence(client int) {
	for _, s := range p.made {
		s.lasted = s.lasted || s.marks[client]
	}
	p.stats.Fences++
}

func (p *plain) evict(a api.Addr, n int) int {
	l := p.line(a)
	l = l[:min(n, len(l))]
	for _, s := range l {
		s.lasted = true
	}
	return len(l)
}

func (p *plain) crash(keep []int) {
	for i, a := range p.lines() {
		n := 0
		if len(keep) > 0 {
			n = max(0, keep[i%len(keep)]) % (len(p.line(a)) + 1)
		}
		p.evict(a, n)
	}
	p.first, p.made = p.image(), nil
}

// pair is a memory and the plain one, to which the same is done.
type pair struct {
	m *pmem.Mem
	p *plain
}

func bytesOf(l []uint64) []byte {
	var b []byte
	for _, w := range l {
		for j := range 8 {
			b = append(b, byte(w>>(8*j)))
		}
	}
	return b
}

// agree holds all looks of both against each other.
func (x pair) agree(t *testing.T) {
	t.Helper()
	if !bytes.Equal(x.m.View(), bytesOf(x.p.view())) {
		t.Fatalf("view: %v, not %v", x.m.View(), bytesOf(x.p.view()))
	}
	if !bytes.Equal(x.m.Image(), bytesOf(x.p.image())) {
		t.Fatalf("image: %v, not %v", x.m.Image(), bytesOf(x.p.image()))
	}
	if !slices.Equal(x.m.Lines(), x.p.lines()) {
		t.Fatalf("lines: %v, not %v", x.m.Lines(), x.p.lines())
	}
	for a := api.Addr(0); a < api.Addr(x.m.Size()); a += 8 {
		if x.m.Pending(a) != len(x.p.line(a)) {
			t.Fatalf("Pending(%d): %d, not %d", a, x.m.Pending(a), len(x.p.line(a)))
		}
	}
	if x.m.Stats() != x.p.stats {
		t.Fatalf("stats: %v, not %v", x.m.Stats(), x.p.stats)
	}
}

// agreeMarks lets copies' fences tell what each client has marked.
func (x pair) agreeMarks(t *testing.T) {
	t.Helper()
	for c := range 4 {
		m := x.m.Copy()
		fence(t, m, c)
		want := x.p.words(func(s *made) bool { return s.lasted || s.marks[c] })
		if !bytes.Equal(m.Image(), bytesOf(want)) {
			t.Fatalf("fence of %d: %v, not %v", c, m.Image(), bytesOf(want))
		}
	}
}

// chance is numbers by a rule: the same ones at each run.
type chance uint64

func (c *chance) below(n int) int {
	*c = *c*6364136223846793005 + 1442695040888963407
	return int(uint64(*c>>33) % uint64(n))
}

// act does something to both.
func (x pair) act(t *testing.T, c *chance) {
	t.Helper()
	a := api.Addr(8 * c.below(x.m.Size()/8))
	client := c.below(4)
	switch k := c.below(40); {
	case k < 18:
		w := uint64(c.below(5))
		store(t, x.m, uint64(a), w)
		x.p.store(a, w)
	case k < 27:
		flush(t, x.m, client, a)
		x.p.flush(client, a)
	case k < 31:
		fence(t, x.m, client)
		x.p.fence(client)
	case k < 37:
		n := c.below(4)
		evict(t, x.m, a, n, x.p.evict(a, n))
	case k < 39:
		w, e := x.m.Load(a)
		x.p.stats.Loads++
		if e != api.OK || w != x.p.view()[a/8] {
			t.Fatalf("Load(%d): %d, %v, not %d", a, w, e, x.p.view()[a/8])
		}
	default:
		keep := make([]int, c.below(4))
		for i := range keep {
			keep[i] = c.below(9) - 2
		}
		x.m.Crash(keep...)
		x.p.crash(keep)
	}
}

// P2.1 to P2.6: whatever is done, in whatever order, the memory is as the chapter's words say.
func TestAsThePlainOne(t *testing.T) {
	for seed := range 60 {
		c := chance(seed)
		x := pair{fresh(t, 256), &plain{first: make([]uint64, 32)}}
		for range 250 {
			x.act(t, &c)
			x.agree(t)
			x.agreeMarks(t)
		}
	}
}

// P2.5: a copy that goes on as its first one does stays the same; and the first one stays as it was, while the copy goes on.
func TestCopyGoesOn(t *testing.T) {
	for seed := range 40 {
		c := chance(1000 + seed)
		x := pair{fresh(t, 192), &plain{first: make([]uint64, 24)}}
		for range c.below(120) {
			x.act(t, &c)
		}
		y := pair{x.m.Copy(), x.p.copy()}
		kept := x.m.Copy()
		cx, cy := c, c
		for range 40 {
			y.act(t, &cy)
		}
		if !x.m.Same(kept) {
			t.Fatal("the first one went on with its copy")
		}
		x.agree(t)
		for range 40 {
			x.act(t, &cx)
		}
		if !x.m.Same(y.m) || !y.m.Same(x.m) || x.m.Stats() != y.m.Stats() {
			t.Fatal("the same was done, and they are not the same")
		}
	}
}

func (p *plain) copy() *plain {
	o := &plain{first: slices.Clone(p.first), stats: p.stats}
	for _, s := range p.made {
		n := *s
		n.marks = map[int]bool{}
		for c := range s.marks {
			n.marks[c] = true
		}
		o.made = append(o.made, &n)
	}
	return o
}

// P2.6: nothing but Fence, Evict and Crash changes what has lasted; nothing but Store and Crash the view.
func TestWhatChanges(t *testing.T) {
	m := fresh(t, 128)
	image, view := m.Image(), m.View()
	hold := func(what string, imageMay, viewMay bool) {
		t.Helper()
		if !imageMay && !bytes.Equal(m.Image(), image) {
			t.Fatal(what, "changed what has lasted")
		}
		if !viewMay && !bytes.Equal(m.View(), view) {
			t.Fatal(what, "changed the view")
		}
		image, view = m.Image(), m.View()
	}
	c := chance(5)
	for range 4000 {
		a := api.Addr(8 * c.below(16))
		store(t, m, uint64(a), uint64(c.below(100)))
		hold("Store", false, true)
		m.Load(a)
		m.Lines()
		m.Pending(a)
		m.Stats()
		m.Same(m.Copy())
		m.Copy().Crash()
		hold("a look", false, false)
		flush(t, m, c.below(65), a)
		hold("Flush", false, false)
		if c.below(3) == 0 {
			m.Fence(c.below(65))
			hold("Fence", true, false)
		}
		if c.below(3) == 0 {
			m.Evict(a, c.below(3))
			hold("Evict", true, false)
		}
		if c.below(50) == 0 {
			m.Crash(c.below(7), c.below(7))
			hold("Crash", true, true)
		}
	}
}

// P2.6: what has lasted of a line is a front of its stores; behind Flush and Fence it is no less than the view at the Flush.
func TestFront(t *testing.T) {
	for seed := range 200 {
		c := chance(7000 + seed)
		m := fresh(t, 64)
		fronts := [][]byte{m.View()} // the view behind each store
		from, flushed := 0, [2]int{}
		for range 40 {
			client := c.below(2)
			least := 0
			switch c.below(5) {
			case 0, 1:
				store(t, m, uint64(8*c.below(8)), uint64(len(fronts)))
				fronts = append(fronts, m.View())
			case 2:
				flush(t, m, client, 0)
				flushed[client] = len(fronts) - 1
			case 3:
				fence(t, m, client)
				least = flushed[client]
			case 4:
				m.Evict(0, c.below(3))
			}
			at := len(fronts) - 1 - m.Pending(0)
			if at < from || at < least || !bytes.Equal(m.Image(), fronts[at]) {
				t.Fatal(seed, at, from, least, m.Image())
			}
			from = at
		}
		// A crash ends it by a front that is no shorter.
		keep := c.below(100)
		n := keep % (m.Pending(0) + 1)
		m.Crash(keep)
		if !bytes.Equal(m.Image(), fronts[from+n]) || !bytes.Equal(m.View(), fronts[from+n]) {
			t.Fatal(seed, m.Image(), m.View())
		}
	}
}

// P2.3, P2.6: the largest memory, all of whose lines are pending, and many stores of one line.
func TestLarge(t *testing.T) {
	m := fresh(t, api.MaxMem)
	for a := uint64(0); a < api.MaxMem; a += 64 {
		store(t, m, a, a+1, a+56, math.MaxUint64-a)
	}
	if l := m.Lines(); len(l) != api.MaxMem/64 || l[len(l)-1] != api.MaxMem-64 {
		t.Fatal(len(l))
	}
	flush(t, m, api.System, api.MaxMem-8)
	fence(t, m, api.System)
	wordsAre(t, "image", m.Image(), api.MaxMem-64, api.MaxMem-63, api.MaxMem-8, math.MaxUint64-(api.MaxMem-64))
	m.Crash(2)
	for a := uint64(0); a < api.MaxMem; a += 64 {
		if w, e := m.Load(api.Addr(a)); e != api.OK || w != a+1 {
			t.Fatal(a, w, e)
		}
	}
	for i := range uint64(100000) {
		store(t, m, 0, i)
	}
	for i := range uint64(100000) {
		evict(t, m, 0, 1, 1)
		store(t, m, 8, i)
	}
	if m.Pending(0) != 100000 {
		t.Error(m.Pending(0))
	}
}
