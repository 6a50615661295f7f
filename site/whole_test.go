package site_test

import (
	"math"
	"testing"

	"levee/api"
	"levee/pmem"
	"levee/site"
	"levee/slab"
)

// act is something that a step may do to the memory, and how many primitives that is.
type act struct {
	do  func(m *pmem.Mem)
	did int
}

func load(m *pmem.Mem)  { m.Load(8) }
func store(m *pmem.Mem) { m.Store(16, 3) }
func flush(m *pmem.Mem) { m.Flush(1, 0) }
func fence(m *pmem.Mem) { m.Fence(1) }

// acts are some of each kind: every pair of primitives, those that are refused, and what is no primitive.
func acts() []act {
	single := []func(*pmem.Mem){load, store, flush, fence}
	l := []act{{func(*pmem.Mem) {}, 0}}
	for _, f := range single {
		l = append(l, act{f, 1})
		for _, g := range single {
			l = append(l, act{func(m *pmem.Mem) { f(m); g(m) }, 2})
		}
	}
	return append(l,
		act{func(m *pmem.Mem) { load(m); store(m); flush(m) }, 3},
		act{func(m *pmem.Mem) { m.Load(3); m.Store(128, 1); m.Flush(65, 0); m.Fence(-1) }, 0},
		act{func(m *pmem.Mem) { m.Load(3); m.Load(8); m.Store(4096, 1) }, 1},
		act{func(m *pmem.Mem) { m.Evict(0, 9); m.Evict(64, 9); m.Crash(1); m.Lines(); m.Image() }, 0},
		act{func(m *pmem.Mem) { c := m.Copy(); load(c); load(c); m.View() }, 0},
	)
}

// said is what a step tells.
type said struct {
	done bool
	code api.Errno
}

func tells() []said {
	return []said{{false, api.OK}, {true, api.OK}, {false, api.ErrBusy}, {true, api.ErrNone}, {false, api.ErrLong}, {true, api.ErrNil}, {false, -7}}
}

// step is what one step does and tells.
type step struct {
	act  act
	tell said
}

// machine goes on by steps that are told one by one; behind the last one it does nothing, and is not done.
type machine struct {
	m     *pmem.Mem
	steps []step
	calls int
}

func (x *machine) Step() (bool, api.Errno) {
	x.calls++
	if x.calls > len(x.steps) {
		return false, api.OK
	}
	s := x.steps[x.calls-1]
	s.act.do(x.m)
	return s.tell.done, s.tell.code
}

// wanted is what Whole is to answer, by the chapter's words, and how many primitives are done.
func wanted(l []step, most int) (n int, odd bool, code api.Errno, did int) {
	for ; n < most; n++ {
		if n >= len(l) {
			return max(most, 0), odd, api.ErrLong, did
		}
		odd = odd || l[n].act.did > 1
		did += l[n].act.did
		if l[n].tell.code != api.OK || l[n].tell.done {
			return n + 1, odd, l[n].tell.code, did
		}
	}
	return max(most, 0), odd, api.ErrLong, did
}

func count(s api.Stats) int {
	return int(s.Loads + s.Stores + s.Flushes + s.Fences)
}

// wholeOf holds Whole of these steps against what is wanted, in a memory in which something was done ahead.
func wholeOf(t *testing.T, l []step, most int) {
	t.Helper()
	m, e := pmem.New(128)
	if e != api.OK {
		t.Fatal(e)
	}
	load(m)
	store(m)
	was := count(m.Stats())
	x := &machine{m: m, steps: l}
	n, odd, code := site.Whole(m, x.Step, most)
	wantN, wantOdd, want, did := wanted(l, most)
	if n != wantN || odd != wantOdd || code != want {
		t.Errorf("%v, at most %d: %d, %v, %d, not %d, %v, %d", l, most, n, odd, code, wantN, wantOdd, want)
	}
	if x.calls != n {
		t.Errorf("%v, at most %d: told %d steps, did %d", l, most, n, x.calls)
	}
	if got := count(m.Stats()) - was; got != did {
		t.Errorf("%v, at most %d: %d primitives were done, not %d", l, most, got, did)
	}
}

// The chapter's example.
func TestWholeExample(t *testing.T) {
	for most, want := range map[int]struct {
		n    int
		code api.Errno
	}{9: {3, api.OK}, 3: {3, api.OK}, 2: {2, api.ErrLong}, 1: {1, api.ErrLong}} {
		m, _ := pmem.New(128)
		calls := 0
		n, odd, e := site.Whole(m, func() (bool, api.Errno) {
			m.Load(0)
			m.Load(8)
			calls++
			return calls == 3, api.OK
		}, most)
		if n != want.n || !odd || e != want.code {
			t.Errorf("at most %d: %d, %v, %d", most, n, odd, e)
		}
	}
}

// P13.3: every two steps of all that a step may do and tell, and every bound about their number.
func TestWholeSteps(t *testing.T) {
	var all []step
	for _, a := range acts() {
		for _, s := range tells() {
			all = append(all, step{a, s})
		}
	}
	for most := -2; most <= 3; most++ {
		wholeOf(t, nil, most)
		for _, x := range all {
			wholeOf(t, []step{x}, most)
			if x.tell != (said{}) {
				continue // what comes behind it is never done
			}
			for _, y := range all {
				wholeOf(t, []step{x, y}, most)
			}
		}
	}
}

// P13.3: of many steps that one alone is odd, the first, the last, or any other, is told; and what comes behind the end is not done.
func TestWholeOdd(t *testing.T) {
	a := acts()
	for length := 1; length <= 8; length++ {
		for at := -1; at <= length+1; at++ {
			l := make([]step, length+2)
			for i := range l {
				l[i].act = a[i%2] // nothing, or one load
				if i == at {
					l[i].act = act{func(m *pmem.Mem) { load(m); fence(m) }, 2}
				}
			}
			for _, s := range tells()[1:] {
				l[length-1].tell = s
				for most := 0; most <= length+3; most++ {
					wholeOf(t, l, most)
				}
			}
		}
	}
}

// P13.3: one primitive a step, of whatever kind, however often, is not odd.
func TestWholeEven(t *testing.T) {
	kinds := []func(*pmem.Mem){load, store, flush, fence}
	for _, at := range []int{0, 1, 2, 3, 997} {
		m, _ := pmem.New(64)
		calls := 0
		n, odd, e := site.Whole(m, func() (bool, api.Errno) {
			kinds[(calls+at)%4](m)
			calls++
			return calls == 5000, api.OK
		}, math.MaxInt)
		if n != 5000 || odd || e != api.OK {
			t.Errorf("%d, %v, %d", n, odd, e)
		}
	}
}

// P13.3: at most so many, also of the greatest and the least numbers.
func TestWholeMost(t *testing.T) {
	m, _ := pmem.New(64)
	for _, most := range []int{math.MinInt, math.MinInt + 1, -1 << 32, -1, 0} {
		n, odd, e := site.Whole(m, func() (bool, api.Errno) {
			t.Error("a step is done of at most", most)
			return true, api.OK
		}, most)
		if n != 0 || odd || e != api.ErrLong {
			t.Errorf("at most %d: %d, %v, %d", most, n, odd, e)
		}
	}
	for _, most := range []int{1 << 31, 1<<32 + 1, math.MaxInt} {
		n, odd, e := site.Whole(m, func() (bool, api.Errno) { return true, api.ErrFull }, most)
		if n != 1 || odd || e != api.ErrFull {
			t.Errorf("at most %d: %d, %v, %d", most, n, odd, e)
		}
	}
	n, odd, e := site.Whole(m, func() (bool, api.Errno) { return false, api.OK }, 100000)
	if n != 100000 || odd || e != api.ErrLong {
		t.Errorf("a machine that is never done: %d, %v, %d", n, odd, e)
	}
}

// The chapter's Errors: no memory, a zero one, no step, ahead of all else, and no step is done.
func TestWholeNone(t *testing.T) {
	m, _ := pmem.New(64)
	was := m.Copy()
	calls := 0
	end := func() (bool, api.Errno) { calls++; return true, api.ErrBusy }
	for _, most := range []int{math.MinInt, -1, 0, 1, 9, math.MaxInt} {
		for _, x := range []struct {
			m    *pmem.Mem
			step func() (bool, api.Errno)
		}{{nil, end}, {&pmem.Mem{}, end}, {m, nil}, {nil, nil}, {&pmem.Mem{}, nil}} {
			if n, odd, e := site.Whole(x.m, x.step, most); n != 0 || odd || e != api.ErrNil {
				t.Errorf("at most %d: %d, %v, %d", most, n, odd, e)
			}
		}
	}
	if calls != 0 || !m.Same(was) || m.Stats() != was.Stats() {
		t.Error("something was done:", calls)
	}
}

// P13.3: what counts is what that memory tells: primitives of another one are nobody's to see.
func TestWholeByTheMemory(t *testing.T) {
	m, _ := pmem.New(64)
	o, _ := pmem.New(64)
	both := func() (bool, api.Errno) { load(o); store(o); load(m); return true, api.OK }
	if n, odd, e := site.Whole(m, both, 1); n != 1 || odd || e != api.OK {
		t.Errorf("%d, %v, %d", n, odd, e)
	}
	if n, odd, e := site.Whole(o, both, 1); n != 1 || !odd || e != api.OK {
		t.Errorf("%d, %v, %d", n, odd, e)
	}
	// A step may put another memory in the place of this one, that has done less than it had.
	for range 9 {
		load(o)
	}
	again := func() (bool, api.Errno) { *o = *m; load(o); return false, api.OK }
	if n, odd, e := site.Whole(o, again, 3); n != 3 || odd || e != api.ErrLong {
		t.Errorf("%d, %v, %d", n, odd, e)
	}
}

// P13.3: what is handed in is the method value of a machine of the layers above, too, also of no machine.
func TestWholeTurn(t *testing.T) {
	x := siteOf(t, imageOf(2), 1)
	a, e := x.Slab().Reserve(3)
	if e != api.OK {
		t.Fatal(e)
	}
	turn, e := x.Slab().Publish(x.Mem(), 0, a)
	if e != api.OK {
		t.Fatal(e)
	}
	n, odd, e := site.Whole(x.Mem(), turn.Step, 20)
	if n < 1 || n > 20 || odd || e != api.OK || x.Slab().Is(a) != 2 {
		t.Errorf("%d, %v, %d; the block is %d", n, odd, e, x.Slab().Is(a))
	}
	if n, odd, e := site.Whole(x.Mem(), turn.Step, 20); n != 1 || odd || e != api.OK {
		t.Errorf("a turn that is done: %d, %v, %d", n, odd, e)
	}
	for _, none := range []*slab.Turn{nil, {}} {
		if n, odd, e := site.Whole(x.Mem(), none.Step, 20); n != 1 || odd || e != api.ErrNil {
			t.Errorf("no turn: %d, %v, %d", n, odd, e)
		}
	}
}

// P13.3: a machine that is done in parts is the same as one that is done at once.
func TestWholeInParts(t *testing.T) {
	for part := 1; part <= 7; part++ {
		m, _ := pmem.New(64)
		calls, all, some := 0, 0, false
		walk := func() (bool, api.Errno) {
			load(m)
			calls++
			if calls == 5 {
				load(m)
			}
			return calls >= 7, api.OK
		}
		code := api.ErrLong
		for code == api.ErrLong {
			n, odd, e := site.Whole(m, walk, part)
			if odd != (all < 5 && all+n >= 5) {
				t.Errorf("parts of %d, behind %d steps %d more: %v", part, all, n, odd)
			}
			all, some, code = all+n, some || odd, e
		}
		if all != 7 || calls != 7 || !some || code != api.OK {
			t.Errorf("parts of %d: %d, %v, %d", part, all, some, code)
		}
	}
}

// No call panics, whatever it is given: a step that does tells nothing, but what it did is counted.
func TestWholePanics(t *testing.T) {
	for _, x := range []struct {
		at, loads, most, n int
		odd                bool
		code               api.Errno
	}{
		{3, 1, 9, 3, false, api.OK},
		{3, 2, 9, 3, true, api.OK},
		{9, 1, 4, 4, false, api.ErrLong},
		{9, 2, 1, 1, true, api.ErrLong},
	} {
		m, _ := pmem.New(64)
		calls := 0
		n, odd, e := site.Whole(m, func() (bool, api.Errno) {
			calls++
			if calls == x.at {
				return true, api.OK
			}
			for range x.loads {
				load(m)
			}
			var none []int
			return none[calls] == 0, api.ErrBusy
		}, x.most)
		if n != x.n || odd != x.odd || e != x.code || calls != n {
			t.Errorf("%v: %d, %v, %d; %d calls", x, n, odd, e, calls)
		}
	}
}
