package site_test

import (
	"bytes"
	"slices"
	"testing"

	"levee/api"
	"levee/pmem"
	"levee/site"
	"levee/slab"
)

// sure is what is known of an arena's blocks behind whatever crash: those that have lasted, and those of which a turn is on its way.
type sure struct {
	in       map[api.Addr]bool
	underway map[api.Addr]bool
}

// dice is a row of numbers that look like chance, the same each time.
type dice uint64

func (d *dice) roll(n int) int {
	*d = *d*6364136223846793005 + 1442695040888963407
	return int(uint64(*d)>>33) % n
}

// turn begins a turn of a block that is reserved, or in use; nil, if there is none.
func turn(d *dice, x *site.Site, s sure) (*slab.Turn, api.Addr) {
	if l := x.Slab().Used(); len(l) > 0 && d.roll(2) == 0 {
		a := l[d.roll(len(l))]
		if t, e := x.Slab().Free(x.Mem(), d.roll(x.Clients()), a); e == api.OK {
			s.underway[a] = true
			return t, a
		}
		return nil, 0
	}
	a, e := x.Slab().Reserve(1 + d.roll(3))
	if e != api.OK {
		return nil, 0
	}
	t, e := x.Slab().Publish(x.Mem(), d.roll(x.Clients()), a)
	if e != api.OK {
		return nil, 0
	}
	s.underway[a] = true
	return t, a
}

// keeps holds the blocks of a site against what is sure: none that has lasted is missing, none is there that is neither that nor under way, and none lies on another one.
func keeps(t *testing.T, x *site.Site, s sure) {
	t.Helper()
	used := x.Slab().Used()
	for a := range s.in {
		if !s.underway[a] && !slices.Contains(used, a) {
			t.Fatalf("the block at %d had lasted", a)
		}
	}
	end := api.Addr(1024)
	for _, a := range used {
		if !s.in[a] && !s.underway[a] {
			t.Fatalf("nobody has put the block at %d in use", a)
		}
		if a < end || a%1024 < 64 {
			t.Fatalf("the block at %d lies on another one, up to %d", a, end)
		}
		end = a + api.Addr(64*x.Slab().Class(int(a/1024)))
	}
}

// opened is a site of what a crash left, in which nobody has a lock.
func opened(t *testing.T, m *pmem.Mem, clients int) *site.Site {
	t.Helper()
	if len(m.Lines()) != 0 || !bytes.Equal(m.Image(), m.View()) {
		t.Fatal("behind a crash something is pending")
	}
	x, e := site.New(m, blocks(t, m.Image()), clients)
	if e != api.OK {
		t.Fatal("behind a crash:", e)
	}
	if !nobody(x.Locks()) {
		t.Fatal("behind a crash somebody has a lock")
	}
	return x
}

// P13.5, P0.3: turns are done by way of the site's objects, up to whatever step, then the power goes, whatever had lasted: a site of what was handed in has what had lasted, no two blocks lie on one another, and nobody has a lock.
func TestBehindCrashes(t *testing.T) {
	for seed := range 40 {
		d := dice(seed)
		image := make([]byte, 1024*(2+seed%5))
		m := memory(t, image)
		s := sure{map[api.Addr]bool{}, map[api.Addr]bool{}}
		x := opened(t, m, 1+seed%api.MaxClients)
		for range 60 {
			crashed := d.roll(6) == 0
			x.Locks().Try(d.roll(x.Clients()), api.Addr(64*(1+d.roll(9))))
			one, a := turn(&d, x, s)
			if one == nil {
				continue
			}
			most := 20
			if crashed {
				most = d.roll(6)
			}
			n, odd, e := site.Whole(x.Mem(), one.Step, most)
			if n > most || odd || e != api.OK && e != api.ErrLong {
				t.Fatalf("a turn: %d, %v, %d", n, odd, e)
			}
			if e == api.OK {
				delete(s.underway, a)
				s.in[a] = x.Slab().Is(a) == 2
				if !s.in[a] {
					delete(s.in, a)
				}
			}
			if crashed {
				m.Crash(d.roll(4), d.roll(4), d.roll(4))
				x = opened(t, m, x.Clients())
				keeps(t, x, s)
				s = settled(x)
			}
		}
		keeps(t, x, s)
	}
}

// settled is what is sure behind a crash: what is there.
func settled(x *site.Site) sure {
	s := sure{map[api.Addr]bool{}, map[api.Addr]bool{}}
	for _, a := range x.Slab().Used() {
		s.in[a] = true
	}
	return s
}

// P13.5, P0.3: the power goes behind every step of a turn, with every front of what is pending: what was handed in is what the site has, and a site of what is left is never refused.
func TestEveryStep(t *testing.T) {
	for steps := 0; steps <= 8; steps++ {
		for keep := 0; keep <= 4; keep++ {
			image := imageOf(2)
			m, s := memory(t, image), blocks(t, image)
			x, e := site.New(m, s, 2)
			if e != api.OK {
				t.Fatal(e)
			}
			x.Locks().Try(0, 1088)
			x.Locks().Try(1, 1088)
			a, _ := x.Slab().Reserve(2)
			one, e := x.Slab().Publish(x.Mem(), 0, a)
			if e != api.OK {
				t.Fatal(e)
			}
			_, _, code := site.Whole(x.Mem(), one.Step, steps)
			if done := code == api.OK; done != (s.Is(a) == 2) || !done && s.Is(a) != 4 {
				t.Errorf("behind %d steps: %d; the block handed in is %d", steps, code, s.Is(a))
			}
			x.Mem().Crash(keep)
			y := opened(t, m, 2)
			was := []api.Addr{1088, 1216, 1344}
			switch l := y.Slab().Used(); {
			case slices.Equal(l, append(was, a)):
			case code != api.OK && slices.Equal(l, was):
			default:
				t.Errorf("behind %d steps, %d kept: %v are in use", steps, keep, l)
			}
		}
	}
}
