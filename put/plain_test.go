package put_test

import (
	"iter"
	"math"
	"slices"
	"strings"
	"testing"

	"levee/api"
	"levee/fast"
	"levee/hold"
	"levee/node"
	"levee/parent"
	"levee/put"
	"levee/run"
	"levee/site"
	"levee/slab"
	"levee/split"
	"levee/super"
	"levee/value"
	"levee/walk"
)

// deed is something that is done to a site.
type deed func(x *site.Site)

// told is what a put tells behind a step.
type told struct {
	done bool
	e    api.Errno // Step's
	code api.Errno // the answer's
}

// plain is a put by the chapter's words, call by call.
type plain struct {
	x      *site.Site
	client int
	begun  bool
	yield  func(told) bool
}

// plainly goes over a put's steps by the chapter's words.
func plainly(x *site.Site, client int, key uint64, v string) iter.Seq[told] {
	return func(yield func(told) bool) {
		defer func() {
			if r := recover(); r != nil && r != any(stopped{}) {
				panic(r)
			}
		}()
		p := &plain{x: x, client: client, yield: yield}
		answer, e := p.put(key, v)
		yield(told{true, e, max(answer, e)})
	}
}

// step is ahead of each: what the one ahead of it came to is known now.
func (p *plain) step() {
	if p.begun && !p.yield(told{code: api.ErrState}) {
		panic(stopped{})
	}
	p.begun = true
}

// does does a machine's steps up to the last one.
func (p *plain) does(step func() (bool, api.Errno)) api.Errno {
	for {
		p.step()
		if through, e := step(); through || e != api.OK {
			return e
		}
	}
}

// runs does a change by a run, if there may be one.
func (p *plain) runs(l []api.Put, e api.Errno) api.Errno {
	if e != api.OK {
		return e
	}
	return p.does(run.New(p.x.Mem(), p.client, l...).Step)
}

// turns does a turn of a block, if there may be one.
func (p *plain) turns(turn *slab.Turn, e api.Errno) api.Errno {
	if e != api.OK {
		return e
	}
	return p.does(turn.Step)
}

// put is the whole: how it is answered, and Step's error.
func (p *plain) put(key uint64, v string) (api.Errno, api.Errno) {
	p.step()
	if len(v) > api.MaxValue {
		return api.ErrLong, api.OK
	}
	class := 1
	if len(v) > 56 {
		class = 2
	}
	s := p.x.Slab()
	to, e := s.Reserve(class)
	if e != api.OK {
		return e, api.OK
	}
	if e := p.runs(value.Puts(to, v)); e != api.OK {
		return 0, e
	}
	if e := p.turns(s.Publish(p.x.Mem(), p.client, to)); e != api.OK {
		return 0, e
	}
	for {
		w := walk.New(p.x, p.client, key, 0)
		if e := p.does(w.Step); e != api.OK {
			return 0, e
		}
		at, _, _ := w.At()
		answer, spare, again, e := p.enter(at, key, to)
		if e == api.OK && spare != 0 {
			e = p.turns(s.Free(p.x.Mem(), p.client, spare))
		}
		if low, child, was := w.Hop(); e == api.OK && !again && was {
			e = p.does(parent.New(p.x, p.client, 1, low, child).Step)
		}
		if e != api.OK || !again {
			return answer, e
		}
	}
}

// enter changes the leaf: how that is answered, and which block is to be given back; or is the walk to be begun anew?
func (p *plain) enter(at api.Addr, key uint64, to api.Addr) (answer api.Errno, spare api.Addr, again bool, e api.Errno) {
	h := hold.New(p.x, p.client, at, key)
	defer h.Release()
	if e := p.does(h.Step); e != api.OK {
		return 0, 0, false, e
	}
	at, n, _ := h.At()
	place, there := node.Find(n, key)
	switch {
	case there:
		return 0, n.Ptrs[place], false, p.runs(fast.Swap(at, n, key, to))
	case node.Len(n) < api.Fan:
		return 0, 0, false, p.runs(fast.Insert(at, n, key, to))
	}
	y := split.New(p.x, p.client, h)
	switch e := p.does(y.Step); e {
	case api.ErrFull:
		return api.ErrFull, to, false, api.OK
	case api.OK:
		h.Release()
		low, child, _ := y.Made()
		return 0, 0, true, p.does(parent.New(p.x, p.client, 1, low, child).Step)
	default:
		return 0, 0, false, e
	}
}

// alike holds a put, step by step, against the chapter's words, in two sites that are alike, to both of which something may be done ahead of each step; is it over, and by which error, within so many?
func alike(t *testing.T, l *land, client int, key uint64, v string, most int, meanwhile func(step int, both func(deed))) (*put.Put, *site.Site, api.Errno) {
	t.Helper()
	x, y := l.site(), l.site()
	p := put.New(x, client, key, v)
	next, stop := iter.Pull(plainly(y, client, key, v))
	defer stop()
	for i := range most {
		meanwhile(i, func(d deed) { d(x); d(y) })
		through, e := p.Step()
		want, ok := next()
		if !ok || through != want.done || e != want.e {
			t.Fatalf("step %d: %v, %d, not %v", i, through, e, want)
		}
		tells(t, p, want.code)
		if x.Mem().Stats() != y.Mem().Stats() || !x.Locks().Same(y.Locks()) || rooms(x) != rooms(y) || !slices.Equal(x.Slab().Used(), y.Slab().Used()) {
			t.Fatalf("step %d does something else: %v, not %v", i, x.Mem().Stats(), y.Mem().Stats())
		}
		if (i%16 == 0 || through) && !x.Mem().Same(y.Mem()) {
			t.Fatalf("up to step %d something else was done", i)
		}
		if through {
			stays(t, p, x, e, want.code)
			return p, x, e
		}
	}
	return p, x, api.ErrLong
}

// nothing is done by nobody.
func nothing(int, func(deed)) {}

// P19.1: in arenas that may be, where nobody else does anything, a put does, step by step, what the chapter says, and nothing else.
func TestStepByStep(t *testing.T) {
	for i, a := range some(t) {
		for client, v := range []string{a.v, "", strings.Repeat("v", 56), strings.Repeat("v", 57), strings.Repeat("v", 120), strings.Repeat("v", 121)} {
			if _, _, e := alike(t, a.l, client*7, a.key, v, most, nothing); e != api.OK {
				t.Fatal(i, e)
			}
		}
	}
	for seed := range 12 {
		l, d := grown(t, 400+seed, seed%2 == 0), dice(seed)
		if seed%4 == 3 {
			l.block(1)
			l.fills(3, seed%5)
		}
		for i, key := range l.keys() {
			if i%4 > 0 {
				continue
			}
			if p, _, e := alike(t, l, (i+seed)%api.MaxClients, key, d.text(), most, nothing); e != api.OK || p.Response().Code != api.OK && seed%4 != 3 {
				t.Fatal(e, p.Response())
			}
		}
	}
}

// rival is another client's doings, in two sites at once: puts of its own, and locks that are held for a while.
type rival struct {
	l     *land
	keys  []uint64
	d     *dice
	steps map[*site.Site]func() (bool, api.Errno)
}

// goOn does a step of the rival's put in a site, or begins one.
func (r *rival) goOn(i int) deed {
	return func(x *site.Site) {
		step, on := r.steps[x]
		if !on {
			step = put.New(x, 61, r.keys[i%len(r.keys)], strings.Repeat("rival", i%20)).Step
			r.steps[x] = step
		}
		if through, _ := step(); through {
			delete(r.steps, x)
		}
	}
}

// beside is a deed of somebody else.
func (r *rival) beside() deed {
	d, l := r.d, r.l
	level := d.roll(len(l.levels))
	at := l.levels[level][d.roll(len(l.levels[level]))].at
	line, i := at+api.Addr(64*d.roll(3)), d.roll(99)
	switch d.roll(14) {
	case 0:
		return func(x *site.Site) { x.Mem().Flush(60, line) }
	case 1:
		return func(x *site.Site) { x.Mem().Fence(60) }
	case 2:
		return func(x *site.Site) {
			if lines := x.Mem().Lines(); len(lines) > 0 {
				x.Mem().Evict(lines[i%len(lines)], 1+i%4)
			}
		}
	case 3:
		return func(x *site.Site) { x.Locks().Try(62, at) }
	case 4:
		return func(x *site.Site) { x.Locks().Try(62, super.RootAt()) }
	case 5, 6:
		return func(x *site.Site) { site.Drop(x, 62) }
	case 7:
		return func(x *site.Site) { x.Slab().Reserve(1 + i%3) }
	case 8:
		return func(x *site.Site) { x.Mem().Store(128+api.Addr(8*(i%8)), uint64(i)) }
	}
	return r.goOn(i)
}

// P19.1: whatever others do meanwhile by puts of their own, or lock, evict, reserve, it is so, too.
func TestBeside(t *testing.T) {
	answers, slow := map[api.Errno]int{}, 0
	list := some(t)
	for seed := range 700 {
		d := dice(seed)
		a := list[d.roll(len(list))]
		r := &rival{l: a.l, keys: []uint64{a.key, a.key, a.key + 1, a.key - 1, 5, 11, 15}, d: &d, steps: map[*site.Site]func() (bool, api.Errno){}}
		often := 1 + d.roll(12)
		p, _, e := alike(t, a.l, 5, a.key, a.v, 6000, func(i int, both func(deed)) {
			if d.roll(often) == 0 {
				both(r.beside())
			}
			if i > 5000 {
				both(func(x *site.Site) { site.Drop(x, 62) })
			}
		})
		switch e {
		case api.OK:
			answers[p.Response().Code]++
		case api.ErrLong:
			slow++
		default:
			t.Fatal(e)
		}
	}
	if answers[api.OK] < 300 || answers[api.ErrFull] < 20 || slow > 100 {
		t.Error("too few that tell something:", answers, slow)
	}
}

// P19.1, the chapter's Errors: in arenas of any kind it ends by the same error, or goes round as the words have it; it has no lock then.
func TestAnyhow(t *testing.T) {
	codes := map[api.Errno]int{}
	for seed := range 900 {
		d := dice(seed)
		l := grown(t, 700+seed%7, seed%3 == 0)
		nodes, keys := slices.Concat(l.levels...), l.keys()
		for range d.roll(4) {
			s := nodes[d.roll(len(nodes))]
			if d.roll(2) == 0 {
				s = l.leaf(keys[0])
			}
			k := api.Addr(d.roll(24))
			l.store(s.at+8*k, []uint64{0, 1, uint64(s.at), uint64(nodes[d.roll(len(nodes))].at), uint64(d.roll(200)), 1 << 40, api.NodeMagic + uint64(d.roll(4))}[d.roll(7)])
		}
		if d.roll(9) == 0 {
			l.store(super.RootAt(), []uint64{0, 1088, 1, 1 << 30, uint64(nodes[d.roll(len(nodes))].at), math.MaxUint64}[d.roll(6)])
		}
		if d.roll(3) == 0 { // a value of the key leads to no block that is published
			s := l.leaf(keys[0])
			l.store(s.at+72, []uint64{8, 1 << 30, uint64(s.at) + 8}[d.roll(3)])
		}
		l.lasts()
		key := keys[d.roll(len(keys))]
		if d.roll(3) == 0 {
			key = keys[d.roll(min(5, len(keys)))]
		}
		_, x, e := alike(t, l, 5, key, d.text(), 3000, nothing)
		codes[e]++
		if e != api.ErrLong && len(x.Locks().Held(5)) > 0 {
			t.Fatal("locks:", x.Locks().Held(5))
		}
	}
	for _, e := range []api.Errno{api.OK, api.ErrArg, api.ErrRange, api.ErrBytes, api.ErrState} {
		if codes[e] < 10 {
			t.Error("too few that tell something:", codes)
		}
	}
}
