package run_test

import (
	"slices"
	"testing"

	"levee/api"
	"levee/pmem"
	"levee/run"
)

// chance is numbers by a rule: the same ones at each run.
type chance uint64

func (c *chance) below(n int) int {
	*c = *c*6364136223846793005 + 1442695040888963407
	return int(uint64(*c>>33) % uint64(n))
}

// under is a run on its way: its stores, its primitives, how many of them are done; and its lines as they were at first.
type under struct {
	run    *run.Run
	client int
	l      []api.Put
	all    []primitive
	steps  int
	lines  []api.Addr
	first  []byte
}

// begin is a run of which nothing is done; these lines are its own.
func begin(t *testing.T, m *pmem.Mem, client int, lines []api.Addr, l ...api.Put) *under {
	t.Helper()
	return &under{made(t, m, client, l...), client, l, primitives(l), 0, lines, m.Image()}
}

// step does a step, and says whether the run is through, as it has to be.
func (u *under) step(t *testing.T) bool {
	t.Helper()
	u.steps++
	done, e := u.run.Step()
	if e != api.OK || done != (u.steps == len(u.all)) {
		t.Fatalf("step %d of %v: %v, %d", u.steps, u.l, done, e)
	}
	return done
}

// bounds are how many stores are of groups that were through, and how many are of these and the next one.
func (u *under) bounds() (int, int) {
	least, n := 0, 0
	for i, p := range u.all {
		switch {
		case p.kind == storing:
			n++
		case p.kind == fencing && i < u.steps:
			least = n
		case p.kind == fencing:
			return least, n
		}
	}
	return least, n
}

// word puts a word into an image.
func word(image []byte, p api.Put) {
	for k := range 8 {
		image[int(p.At)+k] = byte(p.Word >> (8 * k))
	}
}

// explains holds the lines of a run in an image against a beginning of its stores, no shorter and no longer than it may be: how long it is.
func (u *under) explains(t *testing.T, image []byte) int {
	t.Helper()
	least, most := u.bounds()
	want, found := slices.Clone(u.first), -1
	for k := 0; ; k++ {
		if k >= least && u.same(want, image) {
			found = k
		}
		if k == most {
			break
		}
		word(want, u.l[k])
	}
	if found < 0 {
		t.Fatalf("behind step %d of %v no beginning of %d to %d stores has lasted: %v", u.steps, u.l, least, most, image)
	}
	return found
}

// same says whether two images have the same in the run's lines.
func (u *under) same(a, b []byte) bool {
	for _, line := range u.lines {
		if !slices.Equal(a[line:line+64], b[line:line+64]) {
			return false
		}
	}
	return true
}

// crashes holds all that a crash may keep, where but one line is pending.
func (u *under) crashes(t *testing.T, m *pmem.Mem) {
	t.Helper()
	u.explains(t, m.Image())
	if len(m.Lines()) > 1 {
		t.Fatalf("behind step %d of %v lines are pending: %v", u.steps, u.l, m.Lines())
	}
	for _, line := range m.Lines() {
		for keep := range m.Pending(line) + 1 {
			o := m.Copy()
			o.Crash(keep)
			u.explains(t, o.Image())
		}
	}
}

// through holds that all stores of a run have lasted.
func (u *under) through(t *testing.T, m *pmem.Mem) {
	t.Helper()
	want := slices.Clone(u.first)
	for _, p := range u.l {
		word(want, p)
	}
	if !u.same(want, m.Image()) || !u.same(want, m.View()) {
		t.Fatalf("behind %v its stores have not lasted", u.l)
	}
	for _, line := range u.lines {
		if m.Pending(line) != 0 {
			t.Fatalf("behind %v the line at %d is pending", u.l, line)
		}
	}
}

// P10.2: of every short run of some places, whatever is evicted behind a step, and whatever a crash keeps behind each one.
func TestEveryBeginning(t *testing.T) {
	places, lines := []api.Addr{0, 8, 64, 136}, []api.Addr{0, 64, 128}
	var all func(l []api.Put, more int)
	all = func(l []api.Put, more int) {
		if len(l) > 0 {
			evicted(t, lines, l)
		}
		if more == 0 {
			return
		}
		for _, a := range places {
			all(append(slices.Clip(l), api.Put{At: a, Word: uint64(len(l) + 1)}), more-1)
		}
	}
	all(nil, 4)
}

// evicted does a run over and over, with each number of stores evicted behind each of its steps.
func evicted(t *testing.T, lines []api.Addr, l []api.Put) {
	t.Helper()
	for at := range primitives(l) {
		for n := range 1 + len(l) {
			m := memory(t, 192)
			u := begin(t, m, 0, lines, l...)
			for done := false; !done; {
				done = u.step(t)
				if u.steps == at+1 {
					for _, line := range lines {
						m.Evict(line, n)
					}
				}
				u.crashes(t, m)
			}
			u.through(t, m)
		}
	}
}

// P10.2: a beginning is what has lasted where longer runs are evicted over and over, and others mark and fence, too.
func TestEvictedOverAndOver(t *testing.T) {
	lines := []api.Addr{0, 64, 128, 192}
	for seed := range 300 {
		c := chance(seed)
		m := memory(t, 256)
		var l []api.Put
		for i := range 1 + c.below(40) {
			l = append(l, api.Put{At: api.Addr(64*c.below(1+c.below(4)) + 8*c.below(8)), Word: uint64(i + 1)})
		}
		u := begin(t, m, c.below(65), lines, l...)
		for done := false; !done; {
			done = u.step(t)
			switch a := api.Addr(64 * c.below(4)); c.below(6) {
			case 0:
				m.Evict(a, c.below(4))
			case 1:
				m.Flush(c.below(65), a)
			case 2:
				m.Fence(c.below(65))
			}
			u.crashes(t, m)
		}
		u.through(t, m)
	}
}

// severalOf is some runs in one memory, each in every third of its lines; some are of one client.
func severalOf(t *testing.T, m *pmem.Mem, c *chance) []*under {
	t.Helper()
	var l []*under
	for i := range 3 {
		var lines []api.Addr
		for a := api.Addr(64 * i); a < api.Addr(m.Size()); a += 192 {
			lines = append(lines, a)
		}
		var stores []api.Put
		for k := range 1 + c.below(20) {
			at := lines[c.below(len(lines))] + api.Addr(8*c.below(8))
			stores = append(stores, api.Put{At: at, Word: uint64(1000*i + k + 1)})
		}
		l = append(l, begin(t, m, c.below(2), lines, stores...))
	}
	return l
}

// P10.2: so it is of each of several runs that go on at once, in lines of their own, whatever a crash keeps of each line.
func TestSeveralAtOnce(t *testing.T) {
	for seed := range 200 {
		c := chance(5000 + seed)
		m := memory(t, 576)
		l := severalOf(t, m, &c)
		for going := slices.Clone(l); len(going) > 0; {
			i := c.below(len(going))
			if u := going[i]; u.step(t) {
				u.through(t, m)
				going = slices.Delete(going, i, i+1)
			}
			if c.below(3) == 0 {
				m.Evict(api.Addr(64*c.below(9)), c.below(4))
			}
			for range 4 {
				o := m.Copy()
				o.Crash(c.below(9), c.below(9), c.below(9))
				for _, u := range l {
					u.explains(t, o.Image())
				}
			}
		}
		for _, u := range l {
			u.through(t, m)
		}
	}
}

// P10.2: both a beginning and the whole are to be had: a store that is pending may come through, or not; one whose group was through has.
func TestWhatMayBe(t *testing.T) {
	l := puts(0, 8, 64)
	for _, c := range []struct {
		steps, keep, lasted int
	}{
		{1, 0, 0}, {1, 1, 1}, {2, 0, 0}, {2, 1, 1}, {2, 2, 2}, {3, 0, 0}, {3, 1, 1}, {3, 2, 2},
		{4, 0, 2}, {4, 1, 2}, {5, 0, 2}, {5, 1, 3}, {6, 0, 2}, {6, 1, 3}, {7, 0, 3}, {7, 1, 3},
	} {
		m := memory(t, 128)
		u := begin(t, m, 0, []api.Addr{0, 64}, l...)
		for range c.steps {
			u.step(t)
		}
		m.Crash(c.keep)
		if n := u.explains(t, m.Image()); n != c.lasted {
			t.Errorf("behind %d steps, of which %d are kept: %d stores, not %d", c.steps, c.keep, n, c.lasted)
		}
	}
}
