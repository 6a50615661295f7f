package walk_test

import (
	"iter"
	"math"
	"testing"

	"levee/api"
	"levee/pmem"
	"levee/snap"
	"levee/walk"
)

// looked is what a walk tells behind a step.
type looked struct {
	done bool
	code api.Errno
	at   api.Addr
	node api.Node
	high uint64
	has  bool
	low  uint64
	to   api.Addr
	was  bool
}

// over is what is told of a walk that an error has ended: of its hops what was told of them.
func (l looked) over(e api.Errno) looked {
	return looked{done: true, code: e, low: l.low, to: l.to, was: l.was}
}

// child is where a key is looked for below a node.
func child(n api.Node, key uint64) api.Addr {
	at, ahead := n.First, n.First
	for p, ptr := range n.Ptrs {
		if ptr == 0 {
			break
		}
		if ptr != ahead && n.Keys[p] <= key {
			at = ptr
		}
		ahead = ptr
	}
	return at
}

// plainly goes over a walk's steps by the chapter's words, primitive by primitive.
func plainly(m *pmem.Mem, client int, key uint64, level int) iter.Seq[looked] {
	return func(yield func(looked) bool) {
		l, top := looked{}, -1
		word, e := m.Load(16)
		if e != api.OK || !yield(l) {
			return
		}
		for at := api.Addr(word); ; {
			s := snap.New(m, at)
			done, e := s.Step()
			for ; !done; done, e = s.Step() {
				if !yield(l) {
					return
				}
			}
			n, _ := s.Node()
			high, has := s.High()
			if top < 0 {
				top = n.Level
			}
			switch {
			case e != api.OK:
				yield(l.over(e))
				return
			case has && !(key < high):
				if !yield(l) {
					return
				}
				if e := m.Flush(client, at); e != api.OK {
					yield(l.over(e))
					return
				}
				if !yield(l) {
					return
				}
				m.Fence(client)
				if n.Level == level {
					l.low, l.to, l.was = high, n.Next, true
				}
				at = n.Next
			case n.Level > level:
				at = child(n, key)
			default:
				l.done, l.at, l.node, l.high, l.has = true, at, n, high, has
				if top < level {
					l.code = api.ErrNone
				}
				yield(l)
				return
			}
			if !yield(l) {
				return
			}
		}
	}
}

// alike holds a walk, step by step, against the chapter's words, in two memories that are alike, to both of which something may be done ahead of each step; is it done within so many?
func alike(t *testing.T, l *land, client int, key uint64, level, most int, meanwhile func(step int, both func(deed))) bool {
	t.Helper()
	x, m := l.site(), l.mem.Copy()
	w := walk.New(x, client, key, level)
	next, stop := iter.Pull(plainly(m, client, key, level))
	defer stop()
	for i := range most {
		meanwhile(i, func(d deed) { d(m); d(x.Mem()) })
		done, e := w.Step()
		want, ok := next()
		if !ok || done != want.done || e != want.code {
			t.Fatalf("step %d: %v, %d, not %v", i, done, e, want)
		}
		if !m.Same(x.Mem()) || m.Stats() != x.Mem().Stats() {
			t.Fatalf("step %d does something else: %v, not %v", i, x.Mem().Stats(), m.Stats())
		}
		hops(t, w, want.low, want.to, want.was)
		if done {
			tells(t, w, want.at, want.node, want.code, want.high, want.has)
			stays(t, w, x.Mem(), e)
			return true
		}
		tells(t, w, 0, api.Node{}, api.ErrState, 0, false)
	}
	return false
}

// anyhow is nodes as they come, which lead to one another, and now and then to nowhere.
func anyhow(t *testing.T, d *dice) (*land, []api.Addr) {
	t.Helper()
	l := bare(t, 2)
	var at []api.Addr
	for range 10 {
		at = append(at, l.block(3))
	}
	lead := func() api.Addr {
		if d.roll(25) == 0 {
			return []api.Addr{0, 8, 64, 1088 + 8, 3072, math.MaxUint64, 3, 1024}[d.roll(8)]
		}
		return at[d.roll(len(at))]
	}
	for _, a := range at {
		n := api.Node{Level: d.roll(4), Low: uint64(d.roll(30)), Count: uint64(d.roll(3)), First: lead()}
		if d.roll(2) == 0 {
			n.Next = lead()
		}
		for p := range d.roll(api.Fan + 1) {
			n.Keys[p], n.Ptrs[p] = uint64(d.roll(30)), lead()
		}
		l.lay(a, n)
	}
	l.root(at[0])
	if d.roll(2) == 0 {
		l.lasts()
	}
	return l, at
}

// P14.1, P14.2: in whatever arena, and whatever is stored, flushed, evicted meanwhile, a walk does, step by step, what the chapter says, and nothing else.
func TestAnyhow(t *testing.T) {
	ended := 0
	for seed := range 6000 {
		d := dice(seed)
		l, at := anyhow(t, &d)
		often, client := 1+d.roll(60), d.roll(api.System+1)
		if d.roll(9) == 0 {
			client = -1 - client
		}
		if alike(t, l, client, uint64(d.roll(32)), d.roll(4), 500, func(_ int, both func(deed)) {
			if d.roll(often) > 0 {
				return
			}
			a, k, w := at[d.roll(len(at))], d.roll(24), uint64(d.roll(30))
			if k == 2 || k == 4 || k > 8 && k%2 > 0 {
				w = uint64(at[d.roll(len(at))])
			}
			line, other := a+api.Addr(64*d.roll(3)), d.roll(3)
			switch d.roll(6) {
			case 0:
				both(func(m *pmem.Mem) { m.Flush(other, line) })
			case 1:
				both(func(m *pmem.Mem) { m.Fence(other) })
			case 2:
				both(func(m *pmem.Mem) { m.Evict(line, 2) })
			default:
				both(func(m *pmem.Mem) { m.Store(a+api.Addr(8*k), w) })
			}
		}) {
			ended++
		}
	}
	if ended < 2000 {
		t.Error("too few that ended:", ended)
	}
}

// P14.1, P14.2: likewise in arenas that may be, where nobody stores.
func TestStepByStep(t *testing.T) {
	for seed := range 12 {
		l := grown(t, 200+seed, seed%2 == 0)
		for i, key := range l.keys() {
			if !alike(t, l, i%(api.System+1), key, i%(l.top()+2), 70*400, func(int, func(deed)) {}) {
				t.Fatal("not done:", key)
			}
		}
	}
}

// P14.1: the root is read once, in the first step; where another one comes behind it, the walk goes on from the one that it has read.
func TestRootOnce(t *testing.T) {
	s := told(t)
	l := s.land
	tops := leftmost(t, l.mem)
	if len(tops) != 2 {
		t.Fatal(tops)
	}
	for _, first := range tops {
		l.mem.Store(16, uint64(first))
		for at := range 60 {
			for _, then := range append(tops, 0, 64, 1<<40) {
				alike(t, l, 1, 75, 1, 400, func(step int, both func(deed)) {
					if step == at {
						both(func(m *pmem.Mem) { m.Store(16, uint64(then)) })
					}
				})
			}
		}
	}
}
