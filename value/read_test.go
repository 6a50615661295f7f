package value_test

import (
	"iter"
	"math"
	"slices"
	"testing"

	"levee/api"
	"levee/pmem"
	"levee/run"
	"levee/value"
)

// noisy is a memory in which no word is 0, and each is another one.
func noisy(t *testing.T, size int) *pmem.Mem {
	t.Helper()
	m, e := pmem.New(size)
	if m == nil || e != api.OK {
		t.Fatalf("a memory of %d bytes: %d", size, e)
	}
	for a := 0; a < size; a += 8 {
		store(t, m, api.Addr(a), math.MaxUint64-uint64(a))
	}
	return m
}

func store(t *testing.T, m *pmem.Mem, a api.Addr, w uint64) {
	t.Helper()
	if e := m.Store(a, w); e != api.OK {
		t.Fatalf("a store to %d: %d", a, e)
	}
}

// lay stores a value's words, wherever it is.
func lay(t *testing.T, m *pmem.Mem, base api.Addr, words ...uint64) {
	t.Helper()
	for k, w := range words {
		store(t, m, base+api.Addr(8*k), w)
	}
}

// stays holds a read that is over: steps answer the same, and do nothing.
func stays(t *testing.T, r *value.Read, m *pmem.Mem, code api.Errno) {
	t.Helper()
	was, stats := m.Copy(), m.Stats()
	for range 4 {
		if done, e := r.Step(); !done || e != code {
			t.Fatalf("a step behind the last one: %v, %d, not %d", done, e, code)
		}
	}
	if !m.Same(was) || m.Stats() != stats {
		t.Fatal("a step behind the last one does something")
	}
}

func tells(t *testing.T, r *value.Read, s string, code api.Errno) {
	t.Helper()
	if got, e := r.Value(); got != s || e != code {
		t.Fatalf("Value: %q, %d, not %q, %d", got, e, s, code)
	}
}

// looked is what a read's step comes to.
type looked struct {
	done  bool
	value string
	code  api.Errno
}

// plainly goes over a read's steps by the chapter's words, load by load.
func plainly(m *pmem.Mem, base api.Addr) iter.Seq[looked] {
	return func(yield func(looked) bool) {
		first, e := m.Load(base)
		switch {
		case e != api.OK:
			yield(looked{true, "", e})
			return
		case first > 120:
			yield(looked{true, "", api.ErrBytes})
			return
		}
		var b []byte
		for k := uint64(1); uint64(len(b)) < first; k++ {
			if !yield(looked{false, "", api.ErrState}) {
				return
			}
			w, e := m.Load(base + api.Addr(8*k))
			if e != api.OK {
				yield(looked{true, "", e})
				return
			}
			for i := range 8 {
				b = append(b, byte(w>>(8*i)))
			}
		}
		for _, c := range b[first:] {
			if c != 0 {
				yield(looked{true, "", api.ErrBytes})
				return
			}
		}
		yield(looked{true, string(b[:first]), api.OK})
	}
}

// alike holds a read, step by step, against the chapter's words, while ahead of each step (counted from 0) something may be done to the memory: how many steps, and what was loaded.
func alike(t *testing.T, m *pmem.Mem, base api.Addr, meanwhile func(step int)) (int, uint64) {
	t.Helper()
	r := value.New(m, base)
	if r == nil {
		t.Fatal("New: none")
	}
	tells(t, r, "", api.ErrState)
	next, stop := iter.Pull(plainly(m, base))
	defer stop()
	loads := uint64(0)
	for i := 0; ; i++ {
		meanwhile(i)
		was := m.Stats()
		done, e := r.Step()
		is := m.Stats()
		loads += is.Loads - was.Loads
		if is.Loads-was.Loads > 1 || is.Stores != was.Stores || is.Flushes != was.Flushes || is.Fences != was.Fences {
			t.Fatalf("step %d: from %v to %v", i, was, is)
		}
		want, ok := next()
		code := want.code
		if !want.done {
			code = api.OK
		}
		if !ok || done != want.done || e != code {
			t.Fatalf("step %d: %v, %d, not %v", i, done, e, want)
		}
		tells(t, r, want.value, want.code)
		if done {
			stays(t, r, m, e)
			tells(t, r, want.value, want.code)
			return i + 1, loads
		}
	}
}

func nothing(int) {}

// P12.3: a read has a step, and a load, for each word of the value, whatever stands behind it; it is told then, and not before.
func TestRead(t *testing.T) {
	for n := range 121 {
		for _, s := range texts(n) {
			for _, base := range []api.Addr{blockAt(1, classOf(n), 0), blockAt(1, classOf(n), blocks[classOf(n)]-1), blockAt(2, classOf(n), 3)} {
				m := noisy(t, 3072)
				lay(t, m, base, packed(s)...)
				was := m.Copy()
				steps, loads := alike(t, m, base, nothing)
				if steps != value.Words(n) || loads != uint64(steps) || !m.Same(was) {
					t.Fatalf("%d bytes: %d steps, %d loads", n, steps, loads)
				}
				r := value.New(m, base)
				for range steps {
					r.Step()
				}
				tells(t, r, s, api.OK)
			}
		}
	}
}

// P12.3: whichever word is stored to between whichever steps, the read tells what stood in each word when its step came.
func TestOneStore(t *testing.T) {
	for _, n := range []int{0, 1, 8, 13, 56, 57, 120} {
		for k := range 17 {
			for _, w := range []uint64{0, 1, 9, 57, 120, 121, math.MaxUint64} {
				for when := range value.Words(n) + 1 {
					m := noisy(t, 2048)
					lay(t, m, 1088, packed(row(n))...)
					alike(t, m, 1088, func(step int) {
						if step == when {
							store(t, m, 1088+api.Addr(8*k), w)
						}
					})
				}
			}
		}
	}
}

// P12.3: where a block is given to another value meanwhile, the read ends, as many words as the length had that it read; what it loaded first holds.
func TestOtherValue(t *testing.T) {
	for _, first := range []int{0, 5, 40, 57, 120} {
		for _, second := range []int{0, 5, 40, 57, 120} {
			for when := range value.Words(first) {
				m := noisy(t, 2048)
				lay(t, m, 1088, packed(row(first))...)
				steps, _ := alike(t, m, 1088, func(step int) {
					if step == when {
						lay(t, m, 1088, packed(texts(second)[2])...)
					}
				})
				want := value.Words(first)
				if when == 0 {
					want = value.Words(second)
				}
				if steps != want {
					t.Errorf("%d bytes, then %d ahead of step %d: %d steps", first, second, when, steps)
				}
			}
		}
	}
}

// The Errors: a length above MaxValue ends a read at its first step, bytes behind the value at its last one.
func TestReadBytes(t *testing.T) {
	for _, n := range []uint64{121, 122, 128, 1 << 31, 1 << 32, 1<<32 + 1, 1 << 63, 1<<63 + 8, math.MaxUint64 - 7, math.MaxUint64} {
		m := noisy(t, 2048)
		store(t, m, 1088, n)
		if steps, loads := alike(t, m, 1088, nothing); steps != 1 || loads != 1 {
			t.Errorf("a length of %d: %d steps, %d loads", n, steps, loads)
		}
		r := value.New(m, 1088)
		if done, e := r.Step(); !done || e != api.ErrBytes {
			t.Errorf("a length of %d: %v, %d", n, done, e)
		}
		tells(t, r, "", api.ErrBytes)
	}
	for n := range 121 {
		for bit := tail(n); bit < 64; bit++ {
			m := noisy(t, 2048)
			l := packed(row(n))
			l[len(l)-1] |= 1 << bit
			lay(t, m, 1088, l...)
			if steps, _ := alike(t, m, 1088, nothing); steps != len(l) {
				t.Errorf("%d bytes, the bit %d behind them: %d steps", n, bit, steps)
			}
			r := value.New(m, 1088)
			for range l {
				r.Step()
			}
			tells(t, r, "", api.ErrBytes)
		}
	}
}

// The Errors: an address that the memory has not ends a read when it is met.
func TestReadRange(t *testing.T) {
	m := noisy(t, 128)
	for _, base := range []api.Addr{1, 7, 9, 12, 127, 128, 129, 136, 1088, 1 << 20, 1 << 40, 1 << 63, math.MaxUint64 - 127, math.MaxUint64 - 63, math.MaxUint64 - 7, math.MaxUint64} {
		if steps, loads := alike(t, m, base, nothing); steps != 1 || loads != 0 {
			t.Errorf("%d: %d steps, %d loads", base, steps, loads)
		}
		r := value.New(m, base)
		if done, e := r.Step(); !done || e != api.ErrRange {
			t.Errorf("%d: %v, %d", base, done, e)
		}
		tells(t, r, "", api.ErrRange)
	}
}

// The Errors: what is met first is told, where the memory ends within a value.
func TestMemoryEnds(t *testing.T) {
	for n := range 121 {
		words := value.Words(n)
		for room := 1; room <= 16; room++ {
			m := noisy(t, 128)
			base := api.Addr(128 - 8*room)
			lay(t, m, base, packed(row(n))[:min(room, words)]...)
			steps, loads := alike(t, m, base, nothing)
			if room >= words && steps != words || room < words && (steps != room+1 || loads != uint64(room)) {
				t.Errorf("%d bytes, room for %d words: %d steps, %d loads", n, room, steps, loads)
			}
			r := value.New(m, base)
			for range steps {
				r.Step()
			}
			if room >= words {
				tells(t, r, row(n), api.OK)
			} else {
				tells(t, r, "", api.ErrRange)
			}
		}
	}
	m := noisy(t, 64)
	store(t, m, 56, 121) // the length is met ahead of the address behind it
	r := value.New(m, 56)
	r.Step()
	tells(t, r, "", api.ErrBytes)
}

// The Errors: no read, a zero one, no memory, a zero one.
func TestNoRead(t *testing.T) {
	o := noisy(t, 64)
	for _, r := range []*value.Read{nil, {}, new(value.Read)} {
		tells(t, r, "", api.ErrNil)
		stays(t, r, o, api.ErrNil)
		tells(t, r, "", api.ErrNil)
	}
	for _, m := range []*pmem.Mem{nil, {}} {
		for _, base := range []api.Addr{0, 1, 64, 1088, math.MaxUint64} {
			r := value.New(m, base)
			tells(t, r, "", api.ErrNil)
			stays(t, r, o, api.ErrNil)
			tells(t, r, "", api.ErrNil)
		}
	}
}

// The Errors: a memory that is made a zero one meanwhile ends a read for good.
func TestMemoryGoes(t *testing.T) {
	for n := range value.Words(120) {
		m := noisy(t, 2048)
		lay(t, m, 1088, packed(row(120))...)
		r := value.New(m, 1088)
		for range n {
			r.Step()
		}
		kept := *m
		*m = pmem.Mem{}
		tells(t, r, "", api.ErrNil)
		stays(t, r, noisy(t, 64), api.ErrNil)
		*m = kept
		stays(t, r, m, api.ErrNil)
		tells(t, r, "", api.ErrNil)
	}
}

// P12.3: what was told stays so, whatever becomes of the memory.
func TestStays(t *testing.T) {
	m := noisy(t, 2048)
	lay(t, m, 1088, packed(row(20))...)
	r := value.New(m, 1088)
	for range value.Words(20) {
		r.Step()
	}
	for k := range 16 {
		store(t, m, 1088+api.Addr(8*k), 121)
		stays(t, r, m, api.OK)
		tells(t, r, row(20), api.OK)
	}
	m.Crash()
	tells(t, r, row(20), api.OK)
	*m = pmem.Mem{}
	tells(t, r, row(20), api.OK)
	if done, e := r.Step(); !done || e != api.OK {
		t.Error(done, e)
	}
}

// P12.3: reads of one memory go on apart, also of one block.
func TestApart(t *testing.T) {
	m := noisy(t, 2048)
	lay(t, m, 1088, packed(row(20))...)
	lay(t, m, 1152, packed(texts(56)[2])...)
	reads := []*value.Read{value.New(m, 1088), value.New(m, 1152), value.New(m, 1088), value.New(m, 1216)}
	want := []looked{{true, row(20), api.OK}, {true, texts(56)[2], api.OK}, {true, row(20), api.OK}, {true, "", api.ErrBytes}}
	steps := []int{4, 8, 4, 1}
	for i := range 10 {
		for k, r := range reads {
			done, e := r.Step()
			if done != (i+1 >= steps[k]) || done && e != want[k].code {
				t.Fatalf("step %d of %d: %v, %d", i, k, done, e)
			}
			if done {
				tells(t, r, want[k].value, want[k].code)
			} else {
				tells(t, r, "", api.ErrState)
			}
		}
	}
}

// P12.4: a value whose Puts were stored is read again, in as many steps as it has words, whatever else stands in the block; so it is by Parse, of its words and any behind.
func TestPutsRead(t *testing.T) {
	for n := range 121 {
		class := classOf(n)
		for _, s := range texts(n) {
			for j := range blocks[class] {
				m := noisy(t, 2048)
				base := blockAt(1, class, j)
				was := m.Copy()
				puts, e := value.Puts(base, s)
				if e != api.OK {
					t.Fatal(e)
				}
				for _, p := range puts {
					store(t, m, p.At, p.Word)
				}
				if steps, _ := alike(t, m, base, nothing); steps != value.Words(n) {
					t.Fatalf("%d bytes: %d steps", n, steps)
				}
				var block []uint64
				for a := base; a < base+api.Addr(64*class); a += 8 {
					w, _ := m.Load(a)
					block = append(block, w)
				}
				for k := value.Words(n); k <= len(block); k++ {
					if got, e := value.Parse(class, block[:k]); got != s || e != api.OK {
						t.Fatalf("Parse of %v: %q, %d", block[:k], got, e)
					}
				}
				around(t, m, was, base, n)
			}
		}
	}
}

// around holds that only a value's words are others than they were.
func around(t *testing.T, m, was *pmem.Mem, base api.Addr, n int) {
	t.Helper()
	for a := api.Addr(0); a < api.Addr(m.Size()); a += 8 {
		if a >= base && a < base+api.Addr(8*value.Words(n)) {
			continue
		}
		w, _ := m.Load(a)
		if o, _ := was.Load(a); w != o {
			t.Fatalf("%d bytes at %d: %d is stored to", n, base, a)
		}
	}
}

// P12.4: so it is behind a crash, if a run let the Puts last; and the words of two values in neighbouring blocks leave one another alone.
func TestLasts(t *testing.T) {
	for _, n := range []int{0, 1, 56, 57, 64, 120} {
		m := noisy(t, 2048)
		class := classOf(n)
		texts := texts(n)
		for j, s := range texts {
			puts, _ := value.Puts(blockAt(1, class, j), s)
			r := run.New(m, 0, puts...)
			for done := false; !done; {
				done, _ = r.Step()
			}
		}
		m.Crash()
		for j, s := range slices.Backward(texts) {
			r := value.New(m, blockAt(1, class, j))
			for range value.Words(n) {
				r.Step()
			}
			tells(t, r, s, api.OK)
		}
	}
}
