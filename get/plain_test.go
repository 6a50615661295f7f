package get_test

import (
	"iter"
	"math"
	"testing"

	"levee/api"
	"levee/get"
	"levee/pmem"
	"levee/site"
	"levee/snap"
	"levee/value"
	"levee/walk"
)

// deed is something that is done to a memory.
type deed func(m *pmem.Mem)

// looked is what a get tells behind a step.
type looked struct {
	done  bool
	code  api.Errno
	r     api.Response
	tries int
}

// entry is where the first valid entry of a key leads, and is there one.
func entry(n api.Node, key uint64) (api.Addr, bool) {
	ahead := n.First
	for p, ptr := range n.Ptrs {
		if ptr == 0 {
			break
		}
		if ptr != ahead && n.Keys[p] == key {
			return ptr, true
		}
		ahead = ptr
	}
	return 0, false
}

// plainly goes over a get's steps by the chapter's words.
func plainly(x *site.Site, client int, key uint64) iter.Seq[looked] {
	return func(yield func(looked) bool) {
		m, l := x.Mem(), looked{}
		left := false // whoever listens wants no more
		// through does a machine's steps but what is told of the last one: its error.
		through := func(step func() (bool, api.Errno)) api.Errno {
			for {
				done, e := step()
				if done {
					return e
				}
				if left = !yield(l); left {
					return api.OK
				}
			}
		}
		over := func(e api.Errno, r api.Response) {
			r.Code = max(r.Code, e)
			yield(looked{true, e, r, l.tries})
		}
		last := func(at api.Addr, r api.Response) {
			e := api.OK
			for _, a := range []api.Addr{at, at + 64, at + 128} {
				if e = m.Flush(client, a); e != api.OK {
					over(e, api.Response{})
					return
				}
				if !yield(l) {
					return
				}
			}
			over(m.Fence(client), r)
		}
		for {
			w := walk.New(x, client, key, 0)
			if e := through(w.Step); left || e != api.OK {
				over(e, api.Response{})
				return
			}
			at, n, _ := w.At()
			ptr, ok := entry(n, key)
			if left = !yield(l); left {
				return
			}
			if !ok {
				last(at, api.Response{Code: api.ErrNone})
				return
			}
			v := value.New(m, ptr)
			failed := through(v.Step)
			if left || !yield(l) {
				return
			}
			s := snap.NewStill(m, at, n)
			if e := through(s.Step); left || e != api.OK {
				over(e, api.Response{})
				return
			}
			if s.Same() && failed != api.OK {
				over(failed, api.Response{})
				return
			}
			if s.Same() {
				if !yield(l) {
					return
				}
				text, _ := v.Value()
				last(at, api.Response{Value: text})
				return
			}
			l.tries++
			if !yield(l) {
				return
			}
		}
	}
}

// alike holds a get, step by step, against the chapter's words, in two memories that are alike, to both of which something may be done ahead of each step; is it done within so many?
func alike(t *testing.T, l *land, client int, key uint64, most int, meanwhile func(step int, both func(deed))) *get.Get {
	t.Helper()
	x, y := l.site(), l.site()
	g := get.New(x, client, key)
	next, stop := iter.Pull(plainly(y, client, key))
	defer stop()
	for i := range most {
		meanwhile(i, func(d deed) { d(x.Mem()); d(y.Mem()) })
		through, e := g.Step()
		want, ok := next()
		if !ok || through != want.done || e != want.code {
			t.Fatalf("step %d: %v, %d, not %v", i, through, e, want)
		}
		if !x.Mem().Same(y.Mem()) || x.Mem().Stats() != y.Mem().Stats() {
			t.Fatalf("step %d does something else: %v, not %v", i, x.Mem().Stats(), y.Mem().Stats())
		}
		tells(t, g, want.r, want.tries)
		if through {
			stays(t, g, x.Mem(), e)
			return g
		}
	}
	return nil
}

// anyhow is two leaves and a node above them, or a leaf alone, as they come, whose pointers lead to values, and now and then to none, or to nowhere.
func anyhow(t *testing.T, d *dice) (*land, []api.Addr, []api.Addr) {
	t.Helper()
	l := bare(t, 4)
	var at, values []api.Addr
	for range 4 {
		at = append(at, l.block(3))
	}
	for range 8 {
		values = append(values, l.value(d.text()))
	}
	lead := func() api.Addr {
		if d.roll(12) == 0 {
			return []api.Addr{8, 64, 1088 + 8, 5120, 5112, math.MaxUint64, 3, 1024, math.MaxUint64 - 7}[d.roll(9)]
		}
		return values[d.roll(len(values))]
	}
	for i, a := range at[:3] {
		n := api.Node{Low: uint64(6 * i), Count: uint64(d.roll(3)), First: a}
		if i < 2 && d.roll(2) == 0 {
			n.Next = at[i+1]
		}
		for p := range 2 + d.roll(api.Fan-1) {
			n.Keys[p], n.Ptrs[p] = n.Low+uint64(d.roll(6)), lead()
		}
		l.lay(a, n)
	}
	above := api.Node{Level: 1, First: at[0], Keys: [8]uint64{6, 12}, Ptrs: [8]api.Addr{at[1], at[2]}}
	l.lay(at[3], above)
	l.root(at[3*d.roll(2)])
	if d.roll(2) == 0 {
		l.lasts()
	}
	return l, at, values
}

// disturbed is a deed of somebody else: stores to nodes and values, and what makes them last, or not.
func disturbed(d *dice, at, values []api.Addr) deed {
	a, k, w := at[d.roll(len(at))], d.roll(24), uint64(d.roll(16))
	if k == 2 || k == 4 {
		w = uint64(at[d.roll(len(at))])
	} else if k > 8 && k%2 > 0 {
		w = uint64(values[d.roll(len(values))])
	}
	line, other := a+api.Addr(64*d.roll(3)), d.roll(3)
	switch d.roll(9) {
	case 0:
		return func(m *pmem.Mem) { m.Flush(other, line) }
	case 1:
		return func(m *pmem.Mem) { m.Fence(other) }
	case 2:
		return func(m *pmem.Mem) { m.Evict(line, 2) }
	case 3:
		v, at := values[d.roll(len(values))], api.Addr(8*d.roll(4))
		return func(m *pmem.Mem) { m.Store(v+at, w) }
	case 4, 5:
		return func(m *pmem.Mem) { m.Store(a+24, w) }
	}
	return func(m *pmem.Mem) { m.Store(a+api.Addr(8*k), w) }
}

// P15.1: in whatever arena, and whatever is stored, flushed, evicted meanwhile, a get does, step by step, what the chapter says, and nothing else.
func TestAnyhow(t *testing.T) {
	ends, anew := map[api.Errno]int{}, 0
	for seed := range 9000 {
		d := dice(seed)
		l, at, values := anyhow(t, &d)
		often, client := 1+d.roll(60), d.roll(api.System+1)
		if d.roll(9) == 0 {
			client = -1 - client
		}
		g := alike(t, l, client, uint64(d.roll(17)), 500, func(_ int, both func(deed)) {
			if d.roll(often) == 0 {
				both(disturbed(&d, at, values))
			}
		})
		if g != nil {
			ends[g.Response().Code]++
			if g.Tries() > 0 && g.Response().Value != "" {
				anew++
			}
		}
	}
	if ends[api.OK] < 1500 || ends[api.ErrNone] < 1500 || ends[api.ErrBytes] < 50 || ends[api.ErrRange] < 50 || ends[api.ErrArg] < 50 || anew < 50 {
		t.Error("too few that ended:", ends, anew)
	}
}

// P15.1: likewise in arenas that may be, where nobody stores.
func TestStepByStep(t *testing.T) {
	for seed := range 12 {
		l := grown(t, 200+seed, seed%2 == 0)
		for i, key := range l.keys() {
			g := alike(t, l, i%(api.System+1), key, 70*l.nodes()+40, func(int, func(deed)) {})
			if g == nil {
				t.Fatal("not done:", key)
			}
			tells(t, g, answer(l.has, key), 0)
		}
	}
}

// one is an arena of a leaf of the keys 5 and 7, whose values have several words.
func one(t *testing.T) (*land, api.Addr, api.Addr) {
	t.Helper()
	l := bare(t, 2)
	at, five, seven := l.block(3), l.value(long("five", 56)), l.value(long("seven", 50))
	l.lay(at, api.Node{Count: 6, First: at, Keys: [8]uint64{5, 7}, Ptrs: [8]api.Addr{five, seven}})
	l.root(at)
	l.lasts()
	return l, at, five
}

// P15.1, P15.2: wherever Count, or Next, is stored to, or both are, or another word is: what is stored ahead of the look at it lets all begin anew, what comes behind it not.
func TestStill(t *testing.T) {
	l, at, five := one(t)
	next := l.value("") // the node there has Low 0 at first; here a Next whose Low is above the key
	l.words(next, 0, 90)
	anew := 0
	for step := range 45 {
		for _, stores := range [][]api.Put{{{At: at + 24, Word: 7}}, {{At: at + 16, Word: uint64(next)}}, {{At: at + 24, Word: 7}, {At: at + 16, Word: uint64(next)}}, {{At: five + 8, Word: 1}}, {{At: at + 48, Word: 7}}} {
			g := alike(t, l, 0, 5, 110*(1+len(stores)), func(i int, both func(deed)) {
				if i == step {
					for _, p := range stores {
						both(func(m *pmem.Mem) { m.Store(p.At, p.Word) })
					}
				}
			})
			if g == nil {
				t.Fatal("not done", step, stores)
			}
			if g.Tries() > 1 || g.Tries() == 1 && (stores[0].At == five+8 || stores[0].At == at+48) {
				t.Fatal(step, stores, "was begun anew", g.Tries())
			}
			anew += g.Tries()
		}
	}
	// Eight words of the value are read, then Next, then Count; a Next that comes behind the snapshot's last look at it, eight words ahead of its end, is seen by Still alone.
	if anew != 10+(8+9)+10 {
		t.Error("begun anew:", anew)
	}
}

// P15.1: it is begun anew as often as there is cause: Tries counts.
func TestTries(t *testing.T) {
	for times := range 6 {
		l, at, _ := one(t)
		x := l.site()
		g := get.New(x, 0, 5)
		steps, walked := 0, 1+1+2*(4+6)+1
		for through := false; !through; steps++ {
			if (steps+1)%(walked+8+2) == 0 && steps < times*(walked+8+2) {
				x.Mem().Store(at+24, uint64(100+steps))
			}
			var e api.Errno
			if through, e = g.Step(); e != api.OK {
				t.Fatal(e)
			}
			if n := min(times, (steps+1)/(walked+8+2)); g.Tries() != n {
				t.Fatalf("behind %d steps Tries is %d, not %d", steps+1, g.Tries(), n)
			}
		}
		if steps != (times+1)*(walked+8+2)+4 {
			t.Fatal(times, steps)
		}
		tells(t, g, api.Response{Value: long("five", 56)}, times)
	}
}
