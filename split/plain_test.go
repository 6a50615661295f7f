package split_test

import (
	"iter"
	"slices"
	"testing"

	"levee/api"
	"levee/hold"
	"levee/node"
	"levee/site"
	"levee/slab"
	"levee/split"
)

// deed is something that is done to a site.
type deed func(x *site.Site)

// told is what a split tells behind a step.
type told struct {
	done bool
	code api.Errno
	low  uint64
	to   api.Addr
}

// grouped goes over what a run of stores does, primitive by primitive; does more come?
func grouped(x *site.Site, client int, goOn func(last bool) bool, more bool, puts ...api.Put) bool {
	m := x.Mem()
	for i, p := range puts {
		m.Store(p.At, p.Word)
		if !goOn(false) {
			return false
		}
		if i+1 == len(puts) || puts[i+1].At/64 != p.At/64 {
			m.Flush(client, p.At)
			if !goOn(false) {
				return false
			}
			m.Fence(client)
			if !goOn(!more && i+1 == len(puts)) {
				return false
			}
		}
	}
	return true
}

// plainly goes over a split's steps by the chapter's words, primitive by primitive, of a node that has all the entries that there may be.
func plainly(x *site.Site, client int, at api.Addr, n api.Node) iter.Seq[told] {
	return func(yield func(told) bool) {
		to, e := x.Slab().Reserve(3)
		if e != api.OK {
			yield(told{done: true, code: e})
			return
		}
		goOn := func(last bool) bool {
			if last {
				return yield(told{done: true, low: n.Keys[4], to: to})
			}
			return yield(told{})
		}
		var puts []api.Put
		_, right := halves(n, to)
		for k, w := range node.Words(right) {
			puts = append(puts, api.Put{At: to + api.Addr(8*k), Word: w})
		}
		if !grouped(x, client, goOn, true, puts...) {
			return
		}
		turn, _ := x.Slab().Publish(x.Mem(), client, to)
		for done := false; !done; {
			if done, _ = turn.Step(); !goOn(false) {
				return
			}
		}
		count := api.Put{At: at + 24, Word: n.Count}
		next := func() api.Put {
			count.Word++
			return count
		}
		if grouped(x, client, goOn, true, next(), api.Put{At: at + 16, Word: uint64(to)}, next()) {
			grouped(x, client, goOn, false, next(), api.Put{At: at + 64 + 4*16 + 8}, next())
		}
	}
}

// alike holds a split, step by step, against the chapter's words, in two sites that are alike, to both of which something may be done ahead of each step.
func alike(t *testing.T, l *land, client int, s spot, meanwhile func(step int, both func(deed))) (*split.Split, *site.Site) {
	t.Helper()
	x, y := l.site(), l.site()
	h := owner(t, x, client%api.MaxClients, s)
	owner(t, y, client%api.MaxClients, s)
	_, n, _ := h.At()
	some := split.New(x, client, h)
	next, stop := iter.Pull(plainly(y, client, s.at, n))
	defer stop()
	for i := range 400 {
		meanwhile(i, func(d deed) { d(x); d(y) })
		through, e := some.Step()
		want, ok := next()
		if !ok || through != want.done || e != want.code {
			t.Fatalf("step %d: %v, %d, not %v", i, through, e, want)
		}
		if !x.Mem().Same(y.Mem()) || x.Mem().Stats() != y.Mem().Stats() || !x.Locks().Same(y.Locks()) || !same(x.Slab(), y.Slab()) {
			t.Fatalf("step %d does something else: %v, not %v", i, x.Mem().Stats(), y.Mem().Stats())
		}
		made(t, some, want.low, want.to, through && e == api.OK)
		if through {
			return some, x
		}
	}
	t.Fatal("not done")
	return nil, nil
}

// same says whether all blocks are the same by both.
func same(a, b *slab.Slab) bool {
	for class := range 4 {
		if a.Room(class) != b.Room(class) {
			return false
		}
	}
	return slices.Equal(a.Used(), b.Used())
}

// P17.1: in arenas that may be, where nobody else does anything, a split does, step by step, what the chapter says, and nothing else.
func TestStepByStep(t *testing.T) {
	for seed := range 20 {
		l := grown(t, 400+seed, seed%2 == 0)
		for level := range l.levels {
			for i, s := range l.full(level) {
				alike(t, l, (i+seed)%(api.System+1), s, func(int, func(deed)) {})
			}
		}
	}
}

// beside is a deed of somebody else, who does not store to the node, nor to the new one: stores elsewhere, what makes lines last, or not, locks, and blocks that are reserved, released, published, given back.
func beside(d *dice, l *land, s spot, to api.Addr) deed {
	line, other, class := api.Addr(64*d.roll(l.mem.Size()/64)), 60+d.roll(3), 1+d.roll(3)
	k, w := d.roll(8), uint64(d.roll(99))
	switch d.roll(10) {
	case 0:
		return func(x *site.Site) { x.Mem().Flush(other, line) }
	case 1:
		return func(x *site.Site) { x.Mem().Fence(other) }
	case 2:
		line = s.at + api.Addr(64*d.roll(3))
		return func(x *site.Site) { x.Mem().Evict(line, 1+k%2) }
	case 3:
		line = to + api.Addr(64*d.roll(3))
		return func(x *site.Site) { x.Mem().Evict(line, 1+k) }
	case 4:
		return func(x *site.Site) { x.Mem().Flush(other, to/1024*1024) }
	case 5:
		return func(x *site.Site) { x.Slab().Reserve(class) }
	case 6:
		return func(x *site.Site) {
			if l := x.Slab().Used(); len(l) > 0 {
				if turn, e := x.Slab().Free(x.Mem(), other, l[k%len(l)]); e == api.OK {
					turn.Step()
					turn.Step()
				}
			}
		}
	case 7:
		return func(x *site.Site) { x.Locks().Try(other, s.at) }
	case 8:
		return func(x *site.Site) { site.Drop(x, other) }
	}
	if a := line - line%192; line < 1024 || a >= s.at-192 && a < s.at+384 || a >= to-192 && a < to+384 || line == to/1024*1024 {
		line = 128
	}
	return func(x *site.Site) { x.Mem().Store(line+api.Addr(8*k), w) }
}

// P17.1: whatever others store elsewhere, flush, evict, lock, reserve, give back meanwhile, it is so, too.
func TestBeside(t *testing.T) {
	full := 0
	for seed := range 4000 {
		d := dice(seed)
		l, at := lone(t, d.roll(3), 1+d.roll(3), 0, uint64(d.roll(9)), 1, 2, 3, 4, 5, 6, 7, 9)
		if d.roll(4) == 0 { // some of them leave no block
			for l.slab.Room(3) > d.roll(2) {
				l.block(3)
			}
			l.lasts()
		}
		s, often := spot{at, 0}, 1+d.roll(20)
		var to api.Addr
		if l.slab.Room(3) > 0 {
			to = least(t, l.site())
		}
		some, _ := alike(t, l, 5, s, func(i int, both func(deed)) {
			if i > 0 && d.roll(often) == 0 {
				both(beside(&d, l, s, to))
			}
		})
		if _, _, ok := some.Made(); !ok {
			full++
		}
	}
	if full < 50 {
		t.Error("too few that tell something:", full)
	}
}

// anyhow is an arena of a node that has all the entries that there may be, whatever they are, which a hold has.
func anyhow(t *testing.T, d *dice) (*land, *site.Site, *hold.Hold) {
	t.Helper()
	for {
		l := bare(t, 3)
		at, next, free := l.block(3), l.block(3), api.Addr(1024+64+2*192)
		n := api.Node{Level: d.roll(3), Low: uint64(d.roll(9)), Count: uint64(d.roll(9)), First: at}
		if d.roll(2) == 0 {
			n.Next = next
		}
		key := n.Low
		for p := range n.Keys {
			key += uint64(1 + d.roll(9))
			n.Keys[p], n.Ptrs[p] = key, api.Addr(2112+64*p)
		}
		switch d.roll(4) {
		case 0:
			n.Keys[d.roll(8)] = uint64(d.roll(99))
		case 1:
			n.Ptrs[d.roll(8)] = []api.Addr{at, free, n.Ptrs[d.roll(8)]}[d.roll(3)]
		case 2:
			n.First = []api.Addr{0, free, n.Ptrs[d.roll(8)]}[d.roll(3)]
		}
		l.lay(next, api.Node{Low: 200, First: next})
		l.lay(at, n)
		l.root(at)
		l.lasts()
		x := l.site()
		h := hold.New(x, 5, at, n.Low)
		site.Whole(x.Mem(), h.Step, 400)
		if _, held, e := h.At(); e == api.OK && node.Len(held) == api.Fan {
			return l, x, h
		}
	}
}

// Errors: in an arena that is not sound a node that no change leaves is refused, ahead of all stores, by the error of the change, or of the new node; all others become two.
func TestAnyhow(t *testing.T) {
	refusals := 0
	for seed := range 3000 {
		d := dice(seed)
		l, x, h := anyhow(t, &d)
		at, n, _ := h.At()
		l.nodes[at] = n
		to := api.Addr(1024 + 64 + 2*192)
		_, right := halves(n, to)
		if node.May(n, 0, false) && node.May(right, 0, false) && node.Invalid(right) < 0 {
			whole(t, l, x, 5, h)
			continue
		}
		refusals++
		refused(t, split.New(x, 5, h), x, h, api.ErrArg)
		if least(t, x) != to {
			t.Fatal("the block is not free again")
		}
	}
	if refusals < 300 || refusals > 2700 {
		t.Error("too few that tell something:", refusals)
	}
}
