package get_test

import (
	"maps"
	"math"
	"slices"
	"testing"

	"levee/api"
	"levee/fast"
	"levee/get"
	"levee/pmem"
)

// stood holds that a get that is done was answered what the key had at one moment within some deeds, and that this has lasted: whatever of the memory a crash keeps, the key has then what it had at that moment, or since.
func (s *story) stood(m *pmem.Mem, g *get.Get, key uint64, from, to int) {
	s.t.Helper()
	r, first := g.Response(), -1
	for i := from; i <= to && first < 0; i++ {
		if same(r, answer(s.had[i], key)) {
			first = i
		}
	}
	if first < 0 {
		s.t.Fatalf("key %d, deeds %d to %d: %v, and it had that at no moment", key, from, to, r)
	}
	for keep := range 3 {
		crashed := m.Copy()
		crashed.Crash(keep)
		has := pairs(s.t, crashed)
		if !slices.ContainsFunc(s.had[first:to+1], func(had map[uint64]string) bool { return same(answer(had, key), answer(has, key)) }) {
			s.t.Fatalf("key %d, deeds %d to %d, answered %v; the power goes, and it has %v", key, from, to, r, answer(has, key))
		}
	}
}

// keyOf is some key of a story's, or one next to it.
func keyOf(s *story, d *dice) uint64 {
	if d.roll(20) == 0 {
		return []uint64{1, 19, 51, math.MaxUint64}[d.roll(4)]
	}
	return s.key(d)
}

// P15.2, P0.1: wherever in a get a writer goes on, for however long, and then the get to its end.
func TestEveryPause(t *testing.T) {
	anew, values := 0, 0
	for seed := range 2 {
		s, d := told(t, 40+seed), dice(seed)
		for from := 0; from < len(s.deeds); from += 2 {
			for at := 0; at < 140; at += 1 + d.roll(12) {
				key, n := keyOf(s, &d), []int{1, 3, 10, 40, 120, 1000}[d.roll(6)]
				m := s.were[from].Copy()
				g := get.New(siteOf(t, m, s.slab), 5, key)
				done := false
				for range at {
					done, _ = g.Step()
				}
				if done {
					break
				}
				to := s.went(m, from, n)
				most := (70*s.nodes() + 40) * (1 + s.changes(from, to))
				if _, e := ended(t, g, m, most); e != api.OK {
					t.Fatal(e)
				}
				s.stood(m, g, key, from, to)
				anew += g.Tries()
				if g.Tries() > 0 && g.Response().Code == api.OK {
					values++
				}
			}
		}
	}
	if anew < 100 || values < 50 {
		t.Error("too few that were begun anew:", anew, values)
	}
}

// under is a get that is under way since some deed: how many steps it has done.
type under struct {
	g     *get.Get
	key   uint64
	from  int
	steps int
}

// P15.2, P0.1: so it is where gets and writer are mixed step by step, the writer faster than they, as fast, or slower; no get takes more steps than it may.
func TestMixed(t *testing.T) {
	anew := 0
	for seed := range 60 {
		s, d := told(t, 1000+seed), dice(seed)
		for range 40 {
			from, slow, most := d.roll(len(s.deeds)), 1+d.roll(30), 1+d.roll(20)
			m, at := s.were[from].Copy(), from
			x := siteOf(t, m, s.slab)
			var all []under
			for c := range 1 + d.roll(4) {
				key := keyOf(s, &d)
				all = append(all, under{get.New(x, c, key), key, at, 0})
			}
			for len(all) > 0 {
				if d.roll(slow) == 0 {
					at = s.went(m, at, d.roll(most+1))
				}
				i := d.roll(len(all))
				u := &all[i]
				through, e := u.g.Step()
				if u.steps++; u.steps > (70*s.nodes()+40)*(1+s.changes(u.from, at)) || e != api.OK {
					t.Fatal("key", u.key, "deeds", u.from, "to", at, u.steps, "steps", e)
				}
				if through {
					s.stood(m, u.g, u.key, u.from, at)
					anew += u.g.Tries()
					all = append(all[:i], all[i+1:]...)
				}
			}
		}
	}
	if anew < 100 {
		t.Error("too few that were begun anew:", anew)
	}
}

// P15.2: a get whose value's block is given to another key's value while it is read begins anew, and answers what its own key has.
func TestBlockGivenOutAgain(t *testing.T) {
	l, at, five := one(t)
	other := l.value(long("other", 56))
	l.lasts()
	// The key 5 is put anew; then its elder block is given to a value of the key 7.
	deeds := []api.Put{{At: at + 24, Word: 7}, {At: at + 72, Word: uint64(other)}, {At: at + 24, Word: 8}}
	for k := range 7 {
		deeds = append(deeds, api.Put{At: five + api.Addr(8*(k+1)), Word: 0x2121212121212121})
	}
	deeds = append(deeds, api.Put{At: at + 24, Word: 9}, api.Put{At: at + 88, Word: uint64(five)}, api.Put{At: at + 24, Word: 10})
	for step := range 40 {
		for n := range len(deeds) + 1 {
			g := alike(t, l, 0, 5, 330, func(i int, both func(deed)) {
				if i != step {
					return
				}
				for _, p := range deeds[:n] {
					both(func(m *pmem.Mem) { m.Store(p.At, p.Word) })
				}
			})
			r := g.Response()
			if r.Code != api.OK || r.Value != long("five", 56) && r.Value != long("other", 56) {
				t.Fatal(step, n, r)
			}
		}
	}
}

// finds holds gets in what a crash left behind so many deeds: all that they are answered is what there was at one moment since all had lasted.
func (s *story) finds(m *pmem.Mem, deeds int) {
	s.t.Helper()
	x, found := siteOf(s.t, m, s.slab), map[uint64]string{}
	for key := uint64(0); key < 165; key += 5 {
		g := get.New(x, 1, key)
		if _, e := ended(s.t, g, m, 70*s.nodes()+40); e != api.OK || g.Tries() > 0 {
			s.t.Fatal("key", key, e)
		}
		if r := g.Response(); r.Code == api.OK {
			found[key] = r.Value
		}
	}
	for _, had := range s.had[s.sure[deeds] : deeds+1] {
		if maps.Equal(found, had) {
			return
		}
	}
	s.t.Fatalf("behind %d deeds: found are %v, not one of %v", deeds, found, s.had[s.sure[deeds]:deeds+1])
}

// P0.1, P0.3: the power goes behind every deed, whatever is kept: gets answer what was there, or was to be.
func TestCrashes(t *testing.T) {
	s := told(t, 7)
	for deeds, was := range s.were {
		most := 0
		for _, line := range was.Lines() {
			most = max(most, was.Pending(line))
		}
		for keep := range most + 1 {
			m := was.Copy()
			m.Crash(keep)
			s.finds(m, deeds)
		}
	}
}

// P0.1, P0.3: so they do where the power breaks off a get, at whatever step.
func TestBrokenOff(t *testing.T) {
	s := told(t, 8)
	for from := range s.deeds {
		d := dice(from)
		for range 3 {
			m := s.were[from].Copy()
			g := get.New(siteOf(t, m, s.slab), d.roll(9), keyOf(s, &d))
			for range d.roll(120) {
				g.Step()
			}
			to := s.went(m, from, d.roll(7))
			for range d.roll(50) {
				g.Step()
			}
			m.Crash(d.roll(9))
			s.finds(m, to)
		}
	}
}

// P15.2: a writer whose every store comes as late as it can disturb: each lets one snapshot be begun anew (11), not those to Count alone; so a get ends within as many steps again for each store of a change.
func TestSlowWriter(t *testing.T) {
	for entries := range api.Fan {
		for every := 1; every < 60; every++ {
			l := bare(t, 2)
			at, ptr := l.block(3), l.value("ten")
			n := api.Node{First: at}
			for p := range entries {
				n.Keys[p], n.Ptrs[p] = uint64(10+10*p), ptr+api.Addr(64*p)
			}
			l.lay(at, n)
			l.root(at)
			puts := changed(t, fast.Insert, at, n, 5, ptr+64*9)
			for ahead := range puts {
				x := l.site()
				m, left, steps := x.Mem(), puts[ahead:], 0
				for _, p := range puts[:ahead] {
					m.Store(p.At, p.Word)
				}
				g := get.New(x, 0, 10)
				for through := false; !through; steps++ {
					if steps%every == every-1 && len(left) > 0 {
						m.Store(left[0].At, left[0].Word)
						left = left[1:]
					}
					through, _ = g.Step()
				}
				if done := len(puts) - ahead - len(left); steps > 110*(1+done) {
					t.Fatalf("%d entries, a store each %d steps: %d steps, %d stores", entries, every, steps, done)
				}
				if entries > 0 {
					tells(t, g, api.Response{Value: "ten"}, g.Tries())
				} else {
					tells(t, g, api.Response{Code: api.ErrNone}, 0)
				}
			}
		}
	}
}
