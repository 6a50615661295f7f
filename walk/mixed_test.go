package walk_test

import (
	"maps"
	"math"
	"slices"
	"testing"

	"levee/api"
	"levee/node"
	"levee/pmem"
	"levee/walk"
)

// storyKeys are some of a story's, and next to them.
var storyKeys = []uint64{0, 10, 36, 37, 49, 50, 51, 60, 69, 70, 75, 80, 1 << 60}

// stood holds that a walk that is done is at a node of its level (of the root's, where that was below), as it stood at one moment within some deeds, when the key was in its range.
func (s *story) stood(w *walk.Walk, key uint64, level, from, to int) {
	s.t.Helper()
	_, got, e := w.At()
	if e != api.OK && (e != api.ErrNone || got.Level >= level || !s.top(got.Level, from, to)) {
		s.t.Fatalf("key %d, level %d, deeds %d to %d: %v, %d", key, level, from, to, got, e)
	}
	if e == api.ErrNone {
		level = got.Level
	}
	for _, m := range s.were[from : to+1] {
		if within(m, w, key, level) {
			return
		}
	}
	s.t.Fatalf("key %d, level %d, deeds %d to %d: %v, %d", key, level, from, to, got, e)
}

// top says whether the root has that level at one moment within some deeds.
func (s *story) top(level, from, to int) bool {
	for _, m := range s.were[from : to+1] {
		if len(leftmost(s.t, m)) == level+1 {
			return true
		}
	}
	return false
}

// P14.3: wherever in a walk a writer goes on, for however long, and then the walk to its end.
func TestEveryPause(t *testing.T) {
	s, k := told(t), 0
	for level := range 3 {
		for from := range s.deeds {
			for at := 0; at < 90; at += 2 - from%2 {
				for _, n := range []int{1, 3, 7, 29, 1000} {
					key := storyKeys[k%len(storyKeys)]
					k++
					m := s.were[from].Copy()
					w := walk.New(s.siteOf(m), 5, key, level)
					for range at {
						w.Step()
					}
					if _, _, e := w.At(); e != api.ErrState {
						break
					}
					to := s.went(m, from, n)
					ended(t, w, 70*10)
					s.stood(w, key, level, from, to)
				}
			}
		}
	}
}

// P14.3: so it is where walks and writer are mixed step by step, the writer faster than they, as fast, or slower.
func TestMixed(t *testing.T) {
	s := told(t)
	for seed := range 6000 {
		d := dice(seed)
		from, slow, most := d.roll(len(s.deeds)), 1+d.roll(30), 1+d.roll(20)
		m, at := s.were[from].Copy(), from
		x := s.siteOf(m)
		type under struct {
			w     *walk.Walk
			key   uint64
			level int
			from  int
		}
		var all []under
		for c := range 1 + d.roll(4) {
			key, level := storyKeys[d.roll(len(storyKeys))], d.roll(3)
			all = append(all, under{walk.New(x, c, key, level), key, level, at})
		}
		for len(all) > 0 {
			if d.roll(slow) == 0 {
				at = s.went(m, at, d.roll(most+1))
			}
			i := d.roll(len(all))
			u := all[i]
			if through, _ := u.w.Step(); through {
				s.stood(u.w, u.key, u.level, u.from, at)
				all = append(all[:i], all[i+1:]...)
			}
		}
	}
}

// finds holds walks in what a crash left behind so many deeds: each comes to the node of its key, and the leaves have what they had at one moment since the last fence.
func (s *story) finds(m *pmem.Mem, deeds int) {
	s.t.Helper()
	x, levels, found := s.siteOf(m), len(leftmost(s.t, m)), map[uint64]api.Addr{}
	for key := uint64(0); key < 100; key++ {
		w := walk.New(x, 1, key, 0)
		if _, e := ended(s.t, w, 70*10); e != api.OK || !within(m, w, key, 0) {
			s.t.Fatal("key", key, e)
		}
		_, n, _ := w.At()
		if p, ok := node.Find(n, key); ok {
			found[key] = n.Ptrs[p]
		}
	}
	for level := 1; level < levels+2; level++ {
		for _, key := range []uint64{0, 50, 69, 70, math.MaxUint64} {
			w := walk.New(x, 1, key, level)
			want := api.OK
			if level >= levels {
				want = api.ErrNone
			}
			if _, e := ended(s.t, w, 70*10); e != want || !within(m, w, key, min(level, levels-1)) {
				s.t.Fatal("key", key, "level", level, e)
			}
		}
	}
	same := func(has map[uint64]api.Addr) bool { return maps.Equal(found, has) }
	if !slices.ContainsFunc(s.has[s.sure[deeds]:deeds+1], same) {
		s.t.Fatalf("behind %d deeds: found are %v, not one of %v", deeds, found, s.has[s.sure[deeds]:deeds+1])
	}
}

// P0.3, P14.3: the power goes behind every deed, whatever is kept: walks find all that was there, or was to be.
func TestCrashes(t *testing.T) {
	s := told(t)
	for deeds, was := range s.were {
		most := 0
		for _, line := range was.Lines() {
			most = max(most, was.Pending(line))
		}
		for keep := range most + 1 {
			m := was.Copy()
			m.Crash(keep)
			s.finds(m, deeds)
		}
	}
}

// P0.3, P14.3: so they do where the power breaks off a walk, at whatever step.
func TestBrokenOff(t *testing.T) {
	s := told(t)
	for from := range s.deeds {
		d := dice(from)
		for range 5 {
			m := s.were[from].Copy()
			w := walk.New(s.siteOf(m), d.roll(9), storyKeys[d.roll(len(storyKeys))], d.roll(2))
			for range d.roll(120) {
				w.Step()
			}
			to := s.went(m, from, d.roll(7))
			for range d.roll(50) {
				w.Step()
			}
			m.Crash(d.roll(9))
			s.finds(m, to)
		}
	}
}

// P14.3: what a walk went on by as Next has lasted: behind a crash that keeps nothing, its leaf is where it was.
func TestNextHasLasted(t *testing.T) {
	s, hopped := told(t), 0
	for from := range s.were {
		for _, key := range storyKeys {
			m := s.were[from].Copy()
			w := walk.New(s.siteOf(m), 8, key, 0)
			pending := m.Lines()
			ended(t, w, 70*10)
			at, _, _ := w.At()
			if len(m.Lines()) < len(pending) {
				hopped++
			}
			m.Crash()
			again := walk.New(s.siteOf(m), 8, key, 0)
			ended(t, again, 70*10)
			if a, _, _ := again.At(); a != at {
				t.Fatalf("behind %d deeds the key %d was at %d; the power went, and it is at %d", from, key, at, a)
			}
		}
	}
	if hopped == 0 {
		t.Error("no walk went by what had not lasted")
	}
}
