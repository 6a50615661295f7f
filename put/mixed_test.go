package put_test

import (
	"iter"
	"maps"
	"slices"
	"strconv"
	"strings"
	"testing"

	"levee/api"
	"levee/fast"
	"levee/get"
	"levee/hold"
	"levee/node"
	"levee/put"
	"levee/run"
	"levee/site"
	"levee/walk"
)

// turns lets two puts go on in turns, so many steps each time, up to both ends: how many steps each did.
func turns(t *testing.T, some [2]*put.Put, each [2]int, behind func()) [2]int {
	t.Helper()
	var steps [2]int
	var over [2]bool
	for i := 0; !over[0] || !over[1]; i = 1 - i {
		for range each[i] {
			if over[i] {
				break
			}
			var e api.Errno
			if over[i], e = some[i].Step(); e != api.OK {
				t.Fatal(e)
			}
			if steps[i]++; steps[i] > most {
				t.Fatal("not done")
			}
			behind()
		}
	}
	return steps
}

// P0.1, P19.1, P19.2: two in turns, of one key, of one leaf, or elsewhere, however fast each of them is: at any moment, and in whatever a crash leaves, the map is that of some of both; behind them all that was answered OK is there, and nothing leaked.
func TestTwoInTurns(t *testing.T) {
	images, full := 0, 0
	for i, a := range some(t) {
		d, all := dice(i), a.l.keys()
		others := []uint64{a.key, a.key, a.key + 1, a.key - 1, all[d.roll(len(all))], all[d.roll(len(all))]}
		for k, other := range others {
			x := a.l.site()
			two := [2]*put.Put{a.of(x, 5), put.New(x, 6, other, "the other one")}
			for range d.roll(2) * d.roll(200) {
				two[0].Step()
			}
			may := []map[uint64]string{a.l.has, with(a.l.has, a.key, a.v), with(a.l.has, other, "the other one")}
			may = append(may, with(may[1], other, "the other one"), with(may[2], a.key, a.v))
			leaks := len(sound(t, a.l.mem.View()).leaks())
			is := func(image []byte) {
				images++
				found := sound(t, image)
				if len(found.leaks()) > leaks+4 || !slices.ContainsFunc(may, func(m map[uint64]string) bool { return maps.Equal(m, found.has) }) {
					t.Fatal(i, k, "leaks, or another map:", found.leaks(), found.has)
				}
			}
			stores, count := x.Mem().Stats().Stores, 0
			turns(t, two, [2]int{1 + d.roll(3)*d.roll(9), 1 + d.roll(3)*d.roll(9)}, func() {
				if s := x.Mem().Stats().Stores; s > stores {
					if stores, count = s, count+1; count%4 == k%4 {
						is(x.Mem().View())
						kept(x.Mem(), is)
					}
				}
			})
			now, keys, values := sound(t, x.Mem().Image()), [2]uint64{a.key, other}, [2]string{a.v, "the other one"}
			var want [2]map[uint64]string // in either order
			for first := range want {
				want[first] = a.l.has
				for _, j := range [2]int{first, 1 - first} {
					switch two[j].Response().Code {
					case api.OK:
						want[first] = with(want[first], keys[j], values[j])
					case api.ErrFull:
						full++
					default:
						t.Fatal(two[j].Response())
					}
				}
			}
			if !maps.Equal(now.has, want[0]) && !maps.Equal(now.has, want[1]) {
				t.Fatal(i, k, "another map:", now.has)
			}
			if len(now.leaks()) != leaks || len(x.Mem().Lines()) > 0 || len(x.Locks().Held(5))+len(x.Locks().Held(6)) > 0 {
				t.Fatal("leaks, or locks:", now.leaks())
			}
		}
	}
	if images < 5000 || full < 5 {
		t.Error("too few that tell something:", images, full)
	}
}

// tally is how often what was worth telling happened.
type tally struct {
	answers map[api.Errno]int // of puts
	waited  int               // how many steps were spent waiting for a lock
	broken  int               // how many puts a crash broke off
	came    int               // how many of those it let come through
	freed   int               // how many blocks were given back behind a crash
	quiet   int               // behind how many eras nobody was under way
	height  [4]int            // behind how many eras the root was of that level
	most    int               // how many steps a put took at most
}

// call is what a client asked: when it began and ended, by all steps that were done (below 0: it did not), and its answer.
type call struct {
	op    api.OpKind
	key   uint64
	value string
	begun int
	ended int
	r     api.Response
}

// party is clients who write, and read, in one arena at once, in turns as chance has it.
type party struct {
	*tally
	t      *testing.T
	d      dice
	x      *site.Site
	keys   int // of how many keys they know
	named  int // how many values were made
	clock  int // how many steps were done
	stores uint64
	first  map[uint64]string // the map when the era began
	calls  []*call           // those of the era
	over   bool              // no call is to be begun any more
}

// stopped is what ends a client, where nobody asks any more.
type stopped struct{}

// goes is what a client does, a step each time, up to whenever it is stopped.
func (p *party) goes(c int) iter.Seq[bool] {
	return func(yield func(bool) bool) {
		defer func() {
			if r := recover(); r != nil && r != any(stopped{}) {
				panic(r)
			}
		}()
		for !p.over {
			p.turn(c, func() {
				if !yield(true) {
					panic(stopped{})
				}
			})
		}
	}
}

// turn does one call.
func (p *party) turn(c int, pause func()) {
	k := &call{op: []api.OpKind{api.OpPut, api.OpPut, api.OpPut, api.OpGet, api.OpDelete}[p.d.roll(5)], key: uint64(10 * p.d.roll(p.keys)), begun: p.clock, ended: -1}
	p.calls = append(p.calls, k)
	switch k.op {
	case api.OpPut:
		p.named++
		k.value = strconv.Itoa(p.named) + strings.Repeat("-", p.d.roll(2)*p.d.roll(110))
		w := put.New(p.x, c, k.key, k.value)
		e := p.does(c, w.Step, pause)
		k.r = w.Response()
		if len(p.x.Locks().Held(c)) > 0 || e != api.OK || k.r.Code != api.OK && k.r.Code != api.ErrFull {
			p.t.Fatal("a put:", e, k.r)
		}
		p.answers[k.r.Code]++
	case api.OpGet:
		g := get.New(p.x, c, k.key)
		if e := p.does(c, g.Step, pause); e != api.OK {
			p.t.Fatal("a get:", e)
		}
		k.r = g.Response()
	default:
		k.r.Code = p.deletes(c, k.key, pause)
	}
	k.ended = p.clock
	pause()
}

// deletes does a delete (20).
func (p *party) deletes(c int, key uint64, pause func()) api.Errno {
	w := walk.New(p.x, c, key, 0)
	if e := p.does(c, w.Step, pause); e != api.OK {
		p.t.Fatal("a walk:", e)
	}
	at, _, _ := w.At()
	h := hold.New(p.x, c, at, key)
	defer h.Release()
	if e := p.does(c, h.Step, pause); e != api.OK {
		p.t.Fatal("a hold:", e)
	}
	at, n, _ := h.At()
	place, there := node.Find(n, key)
	if !there {
		return api.ErrNone
	}
	l, e := fast.Delete(at, n, key)
	if f := p.does(c, run.New(p.x.Mem(), c, l...).Step, pause); e != api.OK || f != api.OK {
		p.t.Fatal("a change:", e, f)
	}
	h.Release()
	turn, e := p.x.Slab().Free(p.x.Mem(), c, n.Ptrs[place])
	if f := p.does(c, turn.Step, pause); e != api.OK || f != api.OK {
		p.t.Fatal("a value's block:", e, f)
	}
	return api.OK
}

// does does a machine's steps, each of which does one primitive at most; now and then it holds that all is sound.
func (p *party) does(c int, step func() (bool, api.Errno), pause func()) api.Errno {
	m := p.x.Mem()
	for n := 1; ; n++ {
		stats := m.Stats()
		through, e := step()
		if d := done(m, stats); d.Loads+d.Stores+d.Flushes+d.Fences > 1 {
			p.t.Fatal("a step did", d)
		}
		p.clock++
		if s := m.Stats().Stores; s > stats.Stores {
			if p.stores++; p.stores%16 == 0 {
				sound(p.t, m.View())
				sound(p.t, m.Image())
			}
		}
		if _, waits := p.x.Locks().Wants(c); waits {
			p.waited++
		}
		if p.most = max(p.most, n); n > most {
			p.t.Fatal("not done")
		}
		if through {
			return e
		}
		pause()
	}
}

// era lets so many clients go on, in turns, for so many steps, while lines are evicted; then the power goes, behind all calls, or in the midst of them.
func (p *party) era(clients, steps int, quiet bool) {
	var next []func() (bool, bool)
	for c := range clients {
		n, stop := iter.Pull(p.goes(c))
		defer stop()
		next = append(next, n)
	}
	one, m := p.d.roll(clients), p.x.Mem()
	for left := clients; left > 0 && (quiet || steps > 0); steps-- {
		p.over = steps <= 0
		if p.d.roll(4) == 0 || next[one] == nil {
			one = p.d.roll(clients)
		}
		if next[one] == nil {
			continue
		}
		if _, on := next[one](); !on {
			next[one] = nil
			left--
		}
		if lines := m.Lines(); len(lines) > 0 && p.d.roll(9) == 0 {
			m.Evict(lines[p.d.roll(len(lines))], 1+p.d.roll(3))
		}
	}
	if p.over {
		p.rests(clients)
	}
	p.crash(clients)
}

// rests holds what is promised where nobody is under way.
func (p *party) rests(clients int) {
	p.quiet++
	x := p.x
	if now := sound(p.t, x.Mem().View()); len(now.leaks()) > 0 || len(x.Mem().Lines()) > 0 || !slices.Equal(now.blocks.Used(), x.Slab().Used()) {
		p.t.Fatal("nobody is under way, and there are leaks, or stores are pending:", now.leaks(), x.Mem().Lines())
	}
	for c := range clients {
		if _, waits := x.Locks().Wants(c); waits || len(x.Locks().Held(c)) > 0 {
			p.t.Fatal("nobody is under way, and there are locks")
		}
	}
}

// crash holds that behind it the map is one that an order of the calls explains; what is in use and not reached is given back then.
func (p *party) crash(clients int) {
	m := p.x.Mem()
	m.Crash(p.d.roll(9), p.d.roll(9), p.d.roll(9))
	x, found := siteOf(p.t, m, api.MaxClients), sound(p.t, m.View())
	for _, k := range p.calls {
		if k.op == api.OpPut && k.ended < 0 {
			if p.broken++; found.has[k.key] == k.value {
				p.came++
			}
		}
	}
	for key := range 10 * p.keys {
		if !explained(uint64(key), p.first, p.calls, found.has) {
			for _, k := range p.calls {
				if k.key == uint64(key) {
					p.t.Log(*k)
				}
			}
			p.t.Fatalf("the key %d had %q, and has %q: there is no such order", key, p.first[uint64(key)], found.has[uint64(key)])
		}
	}
	if n := len(found.leaks()); n > 2*clients {
		p.t.Fatal("leaks:", found.leaks())
	}
	for _, a := range found.leaks() {
		turn, e := x.Slab().Free(m, api.System, a)
		if _, _, f := site.Whole(m, turn.Step, 20); e != api.OK || f != api.OK {
			p.t.Fatal(e, f)
		}
		p.freed++
	}
	p.height[min(3, len(found.levels)-1)]++
	p.x, p.first, p.calls, p.over = x, found.has, nil, false
}

// place is how far an order has come: which calls are in it, and what the key has.
type place struct {
	in  uint64
	had bool
	v   string
}

// explained says whether there is an order of a key's calls, each that was answered, and some of those that were not, in which none stands behind one that began when it was over, in which each is answered as the plain map does, and behind which the key has what it has.
func explained(key uint64, first map[uint64]string, calls []*call, last map[uint64]string) bool {
	var l []*call
	for _, k := range calls {
		if k.key == key && k.r.Code != api.ErrFull && (k.ended >= 0 || k.op != api.OpGet) {
			l = append(l, k)
		}
	}
	gone := map[place]bool{}
	var goes func(at place) bool
	goes = func(at place) bool {
		if gone[at] {
			return false
		}
		gone[at] = true
		left := slices.IndexFunc(l, func(k *call) bool { return k.ended >= 0 && at.in>>slices.Index(l, k)&1 == 0 })
		if v, is := last[key]; left < 0 && is == at.had && v == at.v {
			return true
		}
		for i, k := range l {
			ahead := func(o *call) bool { return o.ended >= 0 && o.ended < k.begun && at.in>>slices.Index(l, o)&1 == 0 }
			if at.in>>i&1 == 1 || slices.ContainsFunc(l, ahead) {
				continue
			}
			if behind, ok := at.does(k); ok {
				behind.in |= 1 << i
				if goes(behind) {
					return true
				}
			}
		}
		return false
	}
	v, had := first[key]
	return goes(place{had: had, v: v})
}

// does is how all is behind a call, and may that be answered so.
func (at place) does(k *call) (place, bool) {
	is := at
	answer := api.OK
	switch k.op {
	case api.OpPut:
		is.had, is.v = true, k.value
	case api.OpDelete:
		is.had, is.v = false, ""
		fallthrough
	default:
		if !at.had {
			answer = api.ErrNone
		}
	}
	return is, k.ended < 0 || k.r.Code == answer && (k.op != api.OpGet || k.r.Value == at.v)
}

// P0.1, P0.3, P0.6, P19.1, P19.2: clients who put, get and delete at once, of few keys or of many, in several eras, in arenas that are full now and then: there is an order that explains all answers, and what each crash leaves; where nobody is under way all blocks in use are reached.
func TestParty(t *testing.T) {
	count := tally{answers: map[api.Errno]int{}}
	for seed := range 160 {
		d := dice(seed)
		p := &party{tally: &count, t: t, d: d, x: empty(t, 3+d.roll(25)).site(), keys: []int{2, 9, 60, 220}[seed%4], first: map[uint64]string{}}
		for i := range 10 {
			p.era(1+p.d.roll(6), 50+p.d.roll(5000), i%3 == 0)
		}
	}
	if count.answers[api.OK] < 3000 || count.answers[api.ErrFull] < 300 || count.waited < 1000 || count.broken < 500 || count.came < 60 || count.freed < 300 || count.quiet < 150 || count.height[2] < 50 {
		t.Errorf("too few that tell something: %+v", count)
	}
}
