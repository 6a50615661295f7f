package parent_test

import (
	"iter"
	"slices"
	"testing"

	"levee/api"
	"levee/fast"
	"levee/hold"
	"levee/node"
	"levee/parent"
	"levee/run"
	"levee/site"
	"levee/slab"
	"levee/snap"
	"levee/split"
	"levee/super"
	"levee/walk"
)

// deed is something that is done to a site.
type deed func(x *site.Site)

// told is what a parent tells behind a step.
type told struct {
	done bool
	code api.Errno
	left bool
}

// stopped is what ends it, where nobody asks any more.
type stopped struct{}

// plain is a parent by the chapter's words, call by call.
type plain struct {
	x      *site.Site
	client int
	left   bool
	begun  bool
	yield  func(told) bool
}

// plainly goes over a parent's steps by the chapter's words.
func plainly(x *site.Site, client int, d debt) iter.Seq[told] {
	return func(yield func(told) bool) {
		defer func() {
			if r := recover(); r != nil && r != any(stopped{}) {
				panic(r)
			}
		}()
		p := &plain{x: x, client: client, yield: yield}
		e := p.pay(d)
		yield(told{done: true, code: e, left: p.left})
	}
}

// step is ahead of each: what the one ahead of it came to is known now.
func (p *plain) step() {
	if p.begun && !p.yield(told{}) {
		panic(stopped{})
	}
	p.begun = true
}

// does does a machine's steps up to the last one.
func (p *plain) does(step func() (bool, api.Errno)) api.Errno {
	for {
		p.step()
		if through, e := step(); through || e != api.OK {
			return e
		}
	}
}

// runs does stores by a run.
func (p *plain) runs(l ...api.Put) api.Errno {
	return p.does(run.New(p.x.Mem(), p.client, l...).Step)
}

// pay pays what is owed, and what is owed on the way.
func (p *plain) pay(d debt) api.Errno {
	if d.level > api.MaxLevel {
		p.left = true
		return api.OK
	}
	for {
		w := walk.New(p.x, p.client, d.low, d.level)
		again, e := false, p.does(w.Step)
		switch e {
		case api.OK:
			at, _, _ := w.At()
			again, e = p.enter(d, at)
		case api.ErrNone:
			again, e = p.above(d)
		}
		if !again || e != api.OK {
			return e
		}
	}
}

// enter puts the entry in; or is all to be begun anew?
func (p *plain) enter(d debt, at api.Addr) (bool, api.Errno) {
	h := hold.New(p.x, p.client, at, d.low)
	defer h.Release()
	if e := p.does(h.Step); e != api.OK {
		return false, e
	}
	at, n, _ := h.At()
	if _, there := node.Find(n, d.low); there || n.Low == d.low {
		return false, api.OK
	}
	if node.Len(n) < api.Fan {
		l, e := fast.Insert(at, n, d.low, d.child)
		if e != api.OK {
			return false, e
		}
		return false, p.runs(l...)
	}
	s := split.New(p.x, p.client, h)
	switch e := p.does(s.Step); e {
	case api.OK:
		h.Release()
		low, to, _ := s.Made()
		return true, p.pay(debt{d.level + 1, low, to})
	case api.ErrFull:
		p.left = true
		return false, api.OK
	default:
		return false, e
	}
}

// above lets the tree grow; or is all to be begun anew?
func (p *plain) above(d debt) (bool, api.Errno) {
	locks, m := p.x.Locks(), p.x.Mem()
	for had := false; !had; {
		p.step()
		had = locks.Try(p.client, super.RootAt())
	}
	defer locks.Release(p.client, super.RootAt())
	p.step()
	root, e := m.Load(super.RootAt())
	if e != api.OK {
		return false, e
	}
	s := snap.New(m, api.Addr(root))
	if e := p.does(s.Step); e != api.OK {
		return false, e
	}
	if n, _ := s.Node(); n.Level >= d.level {
		return true, api.OK
	}
	to, e := p.x.Slab().Reserve(3)
	if e == api.ErrFull {
		p.left = true
		return false, api.OK
	}
	if d.low == 0 || d.child == api.Addr(root) {
		p.x.Slab().Release(to)
		return false, api.ErrArg
	}
	n := api.Node{Level: d.level, First: api.Addr(root)}
	n.Keys[0], n.Ptrs[0] = d.low, d.child
	var puts []api.Put
	for k, w := range node.Words(n) {
		puts = append(puts, api.Put{At: to + api.Addr(8*k), Word: w})
	}
	if e := p.runs(puts...); e != api.OK {
		return false, e
	}
	turn, e := p.x.Slab().Publish(m, p.client, to)
	if e != api.OK {
		return false, e
	}
	if e := p.does(turn.Step); e != api.OK {
		return false, e
	}
	return false, p.runs(api.Put{At: super.RootAt(), Word: uint64(to)})
}

// alike holds a parent, step by step, against the chapter's words, in two sites that are alike, to both of which something may be done ahead of each step.
func alike(t *testing.T, l *land, client int, d debt, most int, meanwhile func(step int, both func(deed))) (*parent.Parent, *site.Site, api.Errno) {
	t.Helper()
	x, y := l.site(), l.site()
	p := d.of(x, client)
	next, stop := iter.Pull(plainly(y, client, d))
	defer stop()
	for i := range most {
		meanwhile(i, func(d deed) { d(x); d(y) })
		through, e := p.Step()
		want, ok := next()
		if !ok || through != want.done || e != want.code || p.Left() != want.left {
			t.Fatalf("step %d: %v, %d, %v, not %v", i, through, e, p.Left(), want)
		}
		if x.Mem().Stats() != y.Mem().Stats() || !x.Locks().Same(y.Locks()) || !same(x.Slab(), y.Slab()) {
			t.Fatalf("step %d does something else: %v, not %v", i, x.Mem().Stats(), y.Mem().Stats())
		}
		if (i%16 == 0 || through) && !x.Mem().Same(y.Mem()) {
			t.Fatalf("up to step %d something else was done", i)
		}
		if through {
			return p, x, e
		}
	}
	return p, x, api.ErrLong
}

// same says whether all blocks are the same by both.
func same(a, b *slab.Slab) bool {
	for class := range 4 {
		if a.Room(class) != b.Room(class) {
			return false
		}
	}
	return slices.Equal(a.Used(), b.Used())
}

// P18.1: in arenas that may be, where nobody else does anything, a parent does, step by step, what the chapter says, and nothing else.
func TestStepByStep(t *testing.T) {
	for seed := range 30 {
		l := grown(t, 400+seed, seed%2 == 0)
		if seed%4 == 3 {
			l.fills(seed % 5)
		}
		for i, d := range l.debts() {
			if _, _, e := alike(t, l, (i+seed)%api.MaxClients, d, 20000, func(int, func(deed)) {}); e != api.OK {
				t.Fatal(e)
			}
		}
	}
	for levels := 1; levels < 7; levels++ {
		for room := range levels + 2 {
			l := cascade(t, levels, room%3)
			l.fills(room)
			for _, d := range l.debts() {
				alike(t, l, levels, d, 20000, func(int, func(deed)) {})
			}
		}
	}
}

// rival is another client's doings, in two sites at once: what is owed, and locks that are held for a while.
type rival struct {
	l     *land
	d     *dice
	steps map[*site.Site]func() (bool, api.Errno)
}

// goOn does a step of the rival's parent in a site, or begins one of what is owed.
func (r *rival) goOn(i int) deed {
	return func(x *site.Site) {
		step, on := r.steps[x]
		if list := r.l.debts(); !on {
			step = list[i%len(list)].of(x, 61).Step
			r.steps[x] = step
		}
		if through, _ := step(); through {
			delete(r.steps, x)
		}
	}
}

// beside is a deed of somebody else.
func (r *rival) beside() deed {
	d, l := r.d, r.l
	level := d.roll(len(l.levels))
	at := l.levels[level][d.roll(len(l.levels[level]))].at
	line, i := at+api.Addr(64*d.roll(3)), d.roll(99)
	switch d.roll(12) {
	case 0:
		return func(x *site.Site) { x.Mem().Flush(60, line) }
	case 1:
		return func(x *site.Site) { x.Mem().Fence(60) }
	case 2:
		return func(x *site.Site) {
			if lines := x.Mem().Lines(); len(lines) > 0 {
				x.Mem().Evict(lines[i%len(lines)], 1+i%4)
			}
		}
	case 3:
		return func(x *site.Site) { x.Locks().Try(62, at) }
	case 4:
		return func(x *site.Site) { x.Locks().Try(62, super.RootAt()) }
	case 5, 6:
		return func(x *site.Site) { site.Drop(x, 62) }
	case 7:
		return func(x *site.Site) { x.Slab().Reserve(3) }
	case 8:
		return func(x *site.Site) { x.Mem().Store(128+api.Addr(8*(i%8)), uint64(i)) }
	}
	return r.goOn(i)
}

// P18.1: whatever others do meanwhile by parents of their own, or lock, evict, reserve, it is so, too.
func TestBeside(t *testing.T) {
	var left, done, waited int
	for seed := range 1500 {
		d := dice(seed)
		var l *land
		switch seed % 5 {
		case 0:
			l = owed(t, 2+d.roll(4))
		case 1:
			l = cascade(t, 1+d.roll(2), d.roll(3))
		default:
			if l = grown(t, 600+seed/20, d.roll(2) == 0); len(l.debts()) == 0 {
				continue
			}
		}
		if d.roll(3) == 0 {
			l.fills(d.roll(4))
		}
		r := &rival{l: l, d: &d, steps: map[*site.Site]func() (bool, api.Errno){}}
		list, often := l.debts(), 1+d.roll(12)
		p, x, e := alike(t, l, 5, list[d.roll(len(list))], 4000, func(i int, both func(deed)) {
			if d.roll(often) == 0 {
				both(r.beside())
			}
			if i > 3500 {
				both(func(x *site.Site) { site.Drop(x, 62) })
			}
		})
		switch {
		case e == api.OK && p.Left():
			left++
		case e == api.OK:
			done++
		case e != api.ErrLong:
			t.Fatal(e)
		}
		if _, is := x.Locks().Wants(5); is {
			waited++
		}
	}
	if left < 50 || done < 500 || waited > 200 {
		t.Error("too few that tell something:", left, done, waited)
	}
}

// P18.1, the chapter's Errors: in arenas of any kind, and of what may not be owed there, it ends by the same error, or goes round as the words have it.
func TestAnyhow(t *testing.T) {
	codes := map[api.Errno]int{}
	for seed := range 1200 {
		d := dice(seed)
		l := grown(t, 700+seed%7, seed%3 == 0)
		nodes := slices.Concat(l.levels...)
		for range d.roll(4) {
			at := nodes[d.roll(len(nodes))].at
			k := api.Addr(d.roll(24))
			l.store(at+8*k, []uint64{0, 1, uint64(at), uint64(nodes[d.roll(len(nodes))].at), uint64(d.roll(200)), 1 << 40, api.NodeMagic + uint64(d.roll(4))}[d.roll(7)])
		}
		if d.roll(9) == 0 {
			l.store(super.RootAt(), []uint64{0, 1088, 1, 1 << 30, uint64(nodes[d.roll(len(nodes))].at)}[d.roll(5)])
		}
		l.lasts()
		o := debt{1 + d.roll(4), nodes[d.roll(len(nodes))].low + uint64(d.roll(2)), nodes[d.roll(len(nodes))].at}
		if list := l.debts(); len(list) > 0 && d.roll(3) > 0 {
			o = list[d.roll(len(list))]
		}
		if d.roll(9) == 0 {
			o.low = 0
		}
		_, x, e := alike(t, l, 5, o, 3000, func(int, func(deed)) {})
		codes[e]++
		if e != api.ErrLong && len(x.Locks().Held(5)) > 0 {
			t.Fatal("locks:", x.Locks().Held(5))
		}
	}
	for _, e := range []api.Errno{api.OK, api.ErrArg, api.ErrRange, api.ErrBytes} {
		if codes[e] < 10 {
			t.Error("too few that tell something:", codes)
		}
	}
}
