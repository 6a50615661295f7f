package run_test

import (
	"math"
	"slices"
	"testing"

	"levee/api"
	"levee/pmem"
	"levee/run"
)

// What a primitive is.
const (
	storing = iota
	flushing
	fencing
)

// primitive is one that a run has to do; a fence's place and word are nobody's.
type primitive struct {
	kind int
	put  api.Put
}

// primitives are all of a run's, in order, by the chapter's words.
func primitives(l []api.Put) []primitive {
	var all []primitive
	for i := 0; i < len(l); {
		line := l[i].At / 64
		for i < len(l) && l[i].At/64 == line {
			all = append(all, primitive{storing, l[i]})
			i++
		}
		all = append(all, primitive{flushing, api.Put{At: 64 * line}}, primitive{kind: fencing})
	}
	return all
}

// do does a primitive by the memory's own call.
func do(t *testing.T, m *pmem.Mem, client int, p primitive) {
	t.Helper()
	e := api.OK
	switch p.kind {
	case storing:
		e = m.Store(p.put.At, p.put.Word)
	case flushing:
		e = m.Flush(client, p.put.At)
	case fencing:
		e = m.Fence(client)
	}
	if e != api.OK {
		t.Fatalf("%v of %d: %d", p, client, e)
	}
}

func memory(t *testing.T, size int) *pmem.Mem {
	t.Helper()
	m, e := pmem.New(size)
	if m == nil || e != api.OK {
		t.Fatalf("a memory of %d bytes: %d", size, e)
	}
	return m
}

// busy is a memory in which others, and the client itself, have stores pending, some of them marked.
func busy(t *testing.T, size, client int) *pmem.Mem {
	t.Helper()
	m := memory(t, size)
	for a := api.Addr(0); a < api.Addr(size); a += 64 {
		do(t, m, 0, primitive{storing, api.Put{At: a + 24, Word: 7}})
		do(t, m, 0, primitive{storing, api.Put{At: a, Word: uint64(a) + 9}})
		if a%128 == 0 {
			do(t, m, (client+1)%65, primitive{flushing, api.Put{At: a}})
		}
		if a%192 == 64 {
			do(t, m, client, primitive{flushing, api.Put{At: a}})
		}
		do(t, m, 0, primitive{storing, api.Put{At: a + 8, Word: 8}})
	}
	return m
}

// puts are stores to these places, each of a word of its own.
func puts(at ...api.Addr) []api.Put {
	var l []api.Put
	for i, a := range at {
		l = append(l, api.Put{At: a, Word: uint64(100 + i)})
	}
	return l
}

func made(t *testing.T, m *pmem.Mem, client int, l ...api.Put) *run.Run {
	t.Helper()
	r := run.New(m, client, l...)
	if r == nil {
		t.Fatal("New: none")
	}
	return r
}

// stays holds a run that is over: steps answer the same, and do nothing.
func stays(t *testing.T, r *run.Run, m *pmem.Mem, left int, code api.Errno) {
	t.Helper()
	was, stats := m.Copy(), m.Stats()
	for range 4 {
		if done, e := r.Step(); !done || e != code {
			t.Fatalf("a step behind the last one: %v, %d, not %d", done, e, code)
		}
		if r.Left() != left {
			t.Fatalf("Left behind the last step: %d, not %d", r.Left(), left)
		}
	}
	if !m.Same(was) || m.Stats() != stats {
		t.Fatal("a step behind the last one does something")
	}
}

// goes holds a run against the primitives that it has to do, each one at its step: how many steps.
func goes(t *testing.T, m *pmem.Mem, client int, l ...api.Put) int {
	t.Helper()
	o, all, left := m.Copy(), primitives(l), len(l)
	r := made(t, m, client, l...)
	if r.Left() != left || !m.Same(o) || m.Stats() != o.Stats() {
		t.Fatalf("New of %v: Left %d, or something is done", l, r.Left())
	}
	for i, p := range all {
		done, e := r.Step()
		do(t, o, client, p)
		if p.kind == storing {
			left--
		}
		if done != (i == len(all)-1) || e != api.OK {
			t.Fatalf("step %d of %v: %v, %d", i, l, done, e)
		}
		if !m.Same(o) || m.Stats() != o.Stats() {
			t.Fatalf("step %d of %v is not %v", i, l, p)
		}
		if r.Left() != left {
			t.Fatalf("Left behind step %d of %v: %d, not %d", i, l, r.Left(), left)
		}
	}
	if len(all) > 0 {
		stays(t, r, m, 0, api.OK)
	}
	return len(all)
}

// The chapter's example.
func TestExample(t *testing.T) {
	m := memory(t, 192)
	r := made(t, m, 3, api.Put{At: 64, Word: 1}, api.Put{At: 72, Word: 2}, api.Put{At: 128, Word: 3})
	for i, want := range []api.Stats{
		{Stores: 1},
		{Stores: 2},
		{Stores: 2, Flushes: 1},
		{Stores: 2, Flushes: 1, Fences: 1},
		{Stores: 3, Flushes: 1, Fences: 1},
		{Stores: 3, Flushes: 2, Fences: 1},
		{Stores: 3, Flushes: 2, Fences: 2},
	} {
		if done, e := r.Step(); done != (i == 6) || e != api.OK || m.Stats() != want {
			t.Fatalf("step %d: %v, %d, %v", i, done, e, m.Stats())
		}
		if left := []int{2, 1, 1, 1, 0, 0, 0}[i]; r.Left() != left {
			t.Fatalf("Left behind step %d: %d, not %d", i, r.Left(), left)
		}
	}
	image := m.Image()
	if image[64] != 1 || image[72] != 2 || image[128] != 3 || len(m.Lines()) != 0 {
		t.Fatal(image, m.Lines())
	}
	stays(t, r, m, 0, api.OK)
}

// P10.1: a run goes on group by group, a primitive a step, and its steps are as many as the chapter says.
func TestGroups(t *testing.T) {
	for _, c := range []struct {
		at    []api.Addr
		steps int
	}{
		{[]api.Addr{0}, 3},
		{[]api.Addr{504}, 3},
		{[]api.Addr{64, 72, 128}, 7},
		{[]api.Addr{0, 8, 16, 24, 32, 40, 48, 56}, 10},
		{[]api.Addr{56, 64}, 6},           // one behind the other, and not in one line
		{[]api.Addr{56, 0, 48, 8, 56}, 7}, // in one line, not rising, a word twice
		{[]api.Addr{8, 8, 8}, 5},          // one word
		{[]api.Addr{0, 64, 0}, 9},         // back in a line: a group anew
		{[]api.Addr{0, 64, 72, 0, 8, 64}, 14},
		{[]api.Addr{448, 384, 320, 0}, 12}, // falling
		{[]api.Addr{448, 448, 0, 0, 448}, 11},
	} {
		for _, client := range []int{0, 1, api.System - 1, api.System} {
			for _, m := range []*pmem.Mem{memory(t, 512), busy(t, 512, client)} {
				if n := goes(t, m, client, puts(c.at...)...); n != c.steps {
					t.Errorf("%v: %d steps, not %d", c.at, n, c.steps)
				}
			}
		}
	}
}

// P10.1: so it is of every short run of some places.
func TestEveryShortRun(t *testing.T) {
	places := []api.Addr{0, 56, 64, 136}
	var all func(l []api.Put, more int)
	all = func(l []api.Put, more int) {
		goes(t, busy(t, 192, 2), 2, l...)
		if more == 0 {
			return
		}
		for _, a := range places {
			all(append(slices.Clip(l), api.Put{At: a, Word: uint64(len(l) + 1)}), more-1)
		}
	}
	all(nil, 5)
}

// P10.1: a store of a word as it is, and of 0, is a store like another one.
func TestSameWords(t *testing.T) {
	m := memory(t, 128)
	l := []api.Put{{At: 0}, {At: 8}, {At: 64}, {At: 64}}
	if n := goes(t, m, 0, l...); n != 8 || m.Stats().Stores != 4 {
		t.Error(n, m.Stats())
	}
	if n := goes(t, m, 0, api.Put{At: 0, Word: math.MaxUint64}, api.Put{At: 0, Word: math.MaxUint64}); n != 4 {
		t.Error(n)
	}
}

// P10.1: a run of no stores has one step, in which nothing is done.
func TestNoStores(t *testing.T) {
	for _, l := range [][]api.Put{nil, {}} {
		m := busy(t, 128, 5)
		r := made(t, m, 5, l...)
		was, stats := m.Copy(), m.Stats()
		if done, e := r.Step(); r.Left() != 0 || !done || e != api.OK || !m.Same(was) || m.Stats() != stats {
			t.Errorf("%v, %d, %d left, %v", done, e, r.Left(), m.Stats())
		}
		stays(t, r, m, 0, api.OK)
	}
}

// P10.1: many stores, in one group, and in as many groups as there are stores; every word of the largest memory.
func TestMany(t *testing.T) {
	const n = 50000
	m := memory(t, api.MaxMem)
	one, each, words := make([]api.Put, n), make([]api.Put, n), make([]api.Put, api.MaxMem/8)
	for i := range n {
		one[i] = api.Put{At: api.Addr(64 + 8*(i%8)), Word: uint64(i)}
		each[i] = api.Put{At: api.Addr(64 * (i % 2)), Word: uint64(i)}
	}
	for i := range words {
		words[i] = api.Put{At: api.Addr(8 * i), Word: uint64(i) + 1}
	}
	for _, c := range []struct {
		l     []api.Put
		steps int
	}{{one, n + 2}, {each, 3 * n}, {words, len(words) + 2*len(words)/8}} {
		r := made(t, m, 64, c.l...)
		for i := 1; i <= c.steps; i++ {
			if done, e := r.Step(); done != (i == c.steps) || e != api.OK {
				t.Fatalf("step %d of %d: %v, %d", i, c.steps, done, e)
			}
		}
		stays(t, r, m, 0, api.OK)
	}
	if image := m.Image(); !slices.Equal(image, m.View()) || image[0] != 1 || image[api.MaxMem-8] != 0 || image[api.MaxMem-6] != 2 {
		t.Error("the words have not lasted")
	}
}

// P10.1: the stores are the run's own: whoever handed them in may change them, and finds them as they were.
func TestCopied(t *testing.T) {
	m, o := memory(t, 192), memory(t, 192)
	l := append(make([]api.Put, 0, 9), puts(0, 8, 64, 128)...)
	was := slices.Clone(l)
	r := made(t, m, 0, l...)
	if done, e := r.Step(); done || e != api.OK || !slices.Equal(l, was) {
		t.Fatal(done, e, l)
	}
	for i := range l {
		l[i] = api.Put{At: 1000, Word: 5}
	}
	_ = append(l, api.Put{At: 72, Word: 6})
	for done, e := false, api.OK; !done; {
		if done, e = r.Step(); e != api.OK {
			t.Fatal(e)
		}
	}
	goes(t, o, 0, was...)
	if !m.Same(o) || m.Stats() != o.Stats() {
		t.Error(m.View(), o.View())
	}
}

// refused holds a run whose next step is refused by an error: that changes nothing, and it is over.
func refused(t *testing.T, r *run.Run, m *pmem.Mem, left int, code api.Errno) {
	t.Helper()
	if r.Left() != left {
		t.Fatalf("Left: %d, not %d", r.Left(), left)
	}
	stays(t, r, m, left, code)
}

// The Errors: no client, whatever else there is.
func TestClients(t *testing.T) {
	for _, client := range []int{-1, -2, -64, 65, 66, 128, 1 << 32, math.MinInt, math.MaxInt} {
		for _, l := range [][]api.Put{nil, puts(0), puts(0, 8, 64), puts(1), puts(128), puts(0, 1)} {
			m := busy(t, 128, 0)
			refused(t, made(t, m, client, l...), m, len(l), api.ErrClient)
		}
	}
	for client := range api.System + 1 {
		goes(t, memory(t, 128), client, puts(0, 8, 64)...)
	}
}

// The Errors: no memory, ahead of all else.
func TestNoMemory(t *testing.T) {
	for _, m := range []*pmem.Mem{nil, {}} {
		for _, client := range []int{0, 64, -1, 65} {
			for _, l := range [][]api.Put{nil, puts(0), puts(0, 8, 64), puts(1)} {
				refused(t, made(t, m, client, l...), m, len(l), api.ErrNil)
			}
		}
	}
}

// The Errors: no run, and a zero one.
func TestNoRun(t *testing.T) {
	for _, r := range []*run.Run{nil, {}, new(run.Run)} {
		refused(t, r, memory(t, 64), 0, api.ErrNil)
	}
}

// The Errors: a store that the memory refuses ends the run at its step; what is ahead of it is done, as far as it was.
func TestWrongPlaces(t *testing.T) {
	for _, wrong := range []api.Addr{1, 4, 7, 9, 63, 65, 127, 191, 192, 193, 200, 256, 1 << 32, math.MaxUint64 - 7, math.MaxUint64} {
		for _, at := range [][]api.Addr{nil, {0}, {128}, {0, 8}, {0, 64}, {64, 72, 128}, {184, 0}} {
			for _, behind := range [][]api.Addr{nil, {0}, {64, 64}, {wrong}} {
				m := busy(t, 192, 1)
				l := puts(slices.Concat(at, []api.Addr{wrong}, behind)...)
				o, r := m.Copy(), made(t, m, 1, l...)
				for _, p := range primitives(l) {
					if p.put.At == wrong {
						break
					}
					if done, e := r.Step(); done || e != api.OK {
						t.Fatalf("ahead of %d in %v: %v, %d", wrong, l, done, e)
					}
					do(t, o, 1, p)
				}
				if !m.Same(o) || m.Stats() != o.Stats() {
					t.Fatalf("ahead of %d in %v: %v, not %v", wrong, l, m.Stats(), o.Stats())
				}
				refused(t, r, m, len(l)-len(at), api.ErrRange)
			}
		}
	}
}

// The Errors: a memory that is made a zero one meanwhile ends the run for good, if it was not through.
func TestMemoryGoes(t *testing.T) {
	l := puts(0, 8, 64)
	for n := range 8 {
		m := memory(t, 128)
		r := made(t, m, 0, l...)
		for range n {
			r.Step()
		}
		left, code := r.Left(), api.ErrNil
		if n == 7 {
			code = api.OK
		}
		kept := *m
		*m = pmem.Mem{}
		refused(t, r, m, left, code)
		*m = kept
		refused(t, r, m, left, code)
	}
}

// P10.1: two runs have each its own place, also in one memory, and of the same stores.
func TestApart(t *testing.T) {
	m, l := memory(t, 192), puts(0, 64, 72)
	x, y := made(t, m, 0, l...), made(t, m, 0, l...)
	for i := range 8 {
		if done, e := x.Step(); done != (i >= 6) || e != api.OK {
			t.Fatal(i, done, e)
		}
	}
	if x.Left() != 0 || y.Left() != 3 || m.Stats() != (api.Stats{Stores: 3, Flushes: 2, Fences: 2}) {
		t.Fatal(x.Left(), y.Left(), m.Stats())
	}
	for i := range 7 {
		if done, e := y.Step(); done != (i == 6) || e != api.OK {
			t.Fatal(i, done, e)
		}
	}
	if m.Stats() != (api.Stats{Stores: 6, Flushes: 4, Fences: 4}) {
		t.Fatal(m.Stats())
	}
}
