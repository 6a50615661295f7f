package slab_test

import (
	"bytes"
	"math"
	"slices"
	"testing"

	"levee/api"
	"levee/geo"
	"levee/pmem"
	"levee/slab"
)

// What a block is, by the chapter's numbers.
const (
	free      = 0
	reserved  = 1
	published = 2
	leaving   = 3
	coming    = 4
)

// counts are how many blocks a slab has, by its class.
var counts = [4]int{0, 15, 7, 5}

// blockAt is where a block begins, told by the arena's words alone.
func blockAt(slab, class, j int) api.Addr {
	return api.Addr(1024*slab + 64 + 64*class*j)
}

// set puts a word into an image.
func set(image []byte, at int, w uint64) {
	for k := range 8 {
		image[at+k] = byte(w >> (8 * k))
	}
}

// word is the word of an image.
func word(image []byte, at int) uint64 {
	w := uint64(0)
	for k := range 8 {
		w |= uint64(image[at+k]) << (8 * k)
	}
	return w
}

// head is what a slab's header has.
type head struct {
	class, bits uint64
}

// imageOf is an arena with these headers; what else it has is nobody's to look at.
func imageOf(l ...head) []byte {
	image := make([]byte, 1024*(1+len(l)))
	for i := range image {
		image[i] = byte(7*i + 3)
	}
	for i, h := range l {
		set(image, 1024*(i+1), h.class)
		set(image, 1024*(i+1)+8, h.bits)
	}
	return image
}

// noughts is an arena of which nothing was ever written.
func noughts(slabs int) []byte {
	return make([]byte, 1024*(1+slabs))
}

func of(t *testing.T, image []byte) *slab.Slab {
	t.Helper()
	s, e := slab.Of(image)
	if s == nil || e != api.OK {
		t.Fatalf("Of: %v, %d", s, e)
	}
	return s
}

func memory(t *testing.T, image []byte) *pmem.Mem {
	t.Helper()
	m, e := pmem.Of(image)
	if m == nil || e != api.OK {
		t.Fatalf("a memory of %d bytes: %d", len(image), e)
	}
	return m
}

func reserve(t *testing.T, s *slab.Slab, class int) api.Addr {
	t.Helper()
	a, e := s.Reserve(class)
	if e != api.OK {
		t.Fatalf("Reserve(%d): %d", class, e)
	}
	return a
}

func publish(t *testing.T, s *slab.Slab, m *pmem.Mem, client int, a api.Addr) *slab.Turn {
	t.Helper()
	x, e := s.Publish(m, client, a)
	if x == nil || e != api.OK {
		t.Fatalf("Publish(%d, %d): %v, %d", client, a, x, e)
	}
	return x
}

func giveBack(t *testing.T, s *slab.Slab, m *pmem.Mem, client int, a api.Addr) *slab.Turn {
	t.Helper()
	x, e := s.Free(m, client, a)
	if x == nil || e != api.OK {
		t.Fatalf("Free(%d, %d): %v, %d", client, a, x, e)
	}
	return x
}

// through does a turn's steps till it is done: how many.
func through(t *testing.T, x *slab.Turn) int {
	t.Helper()
	for n := 1; n <= 20; n++ {
		done, e := x.Step()
		if e != api.OK {
			t.Fatalf("step %d: %d", n, e)
		}
		if done {
			return n
		}
	}
	t.Fatal("a turn is not done within 20 steps")
	return 0
}

// wrongSizes are numbers of bytes that no arena has.
func wrongSizes() []int {
	return []int{0, 1, 8, 64, 1023, 1024, 1025, 2047, 2049, 2048 + 64, 3071, 3073, 1024*65 - 1, 1024*65 + 1, 1024*65 + 64, 1024 * 66, 1024 * 67, 1 << 20, 1<<20 + 1024}
}

// wrongClasses are numbers of no class.
func wrongClasses() []int {
	return []int{0, -1, 4, 5, 64, math.MinInt, math.MaxInt, 1 << 32, 1<<32 + 1, -3}
}

// P6.1: Of refuses bytes of no arena's size.
func TestOfSize(t *testing.T) {
	if s, e := slab.Of(nil); s != nil || e != api.ErrArg {
		t.Errorf("Of(nil): %v, %d", s, e)
	}
	for _, n := range wrongSizes() {
		image := make([]byte, n)
		for i := range image {
			image[i] = 255 // so that the size is looked at ahead of the headers
		}
		if s, e := slab.Of(image); s != nil || e != api.ErrArg {
			t.Errorf("Of %d bytes: %v, %d", n, s, e)
		}
	}
	for n := 1; n <= api.MaxSlabs; n++ {
		if s := of(t, noughts(n)); s.Slabs() != n {
			t.Errorf("Slabs of %d: %d", n, s.Slabs())
		}
	}
}

// P6.1: Of refuses a class above 3, in whichever slab, and whatever its bits.
func TestOfClass(t *testing.T) {
	for _, class := range []uint64{4, 5, 15, 255, 256, 1 << 32, 1<<32 + 1, 1 << 63, 1<<63 + 1, math.MaxUint64, math.MaxUint64 - 2} {
		for at := range 3 {
			for _, b := range []uint64{0, 1, math.MaxUint64} {
				l := []head{{1, 1}, {0, 0}, {3, 2}}
				l[at] = head{class, b}
				if s, e := slab.Of(imageOf(l...)); s != nil || e != api.ErrCorrupt {
					t.Errorf("the class %x, bits %x in slab %d: %v, %d", class, b, at+1, s, e)
				}
			}
		}
	}
}

// P6.1: Of refuses a bit of a block that there is not, and no other one.
func TestOfBits(t *testing.T) {
	for class, n := range counts {
		for j := range 64 {
			for at := range 3 {
				l := []head{{1, 1}, {0, 0}, {3, 2}}
				l[at] = head{uint64(class), 1 << j}
				s, e := slab.Of(imageOf(l...))
				switch {
				case j >= n && (s != nil || e != api.ErrCorrupt):
					t.Errorf("the class %d, bit %d in slab %d: %v, %d", class, j, at+1, s, e)
				case j < n && (e != api.OK || s.Is(blockAt(at+1, class, j)) != published):
					t.Errorf("the class %d, bit %d in slab %d: %d", class, j, at+1, e)
				}
			}
		}
	}
}

// P6.1: of what Of answers those blocks are published whose bits are set, and all others are free.
func TestOfBlocks(t *testing.T) {
	for class := uint64(1); class <= 3; class++ {
		n := counts[class]
		for b := range uint64(1) << n {
			if class == 1 && b%97 > 1 {
				continue // some of the many are enough
			}
			s := of(t, imageOf(head{0, 0}, head{class, b}))
			if s.Class(1) != 0 || s.Class(2) != int(class) {
				t.Fatalf("classes %d, %d of 0, %d", s.Class(1), s.Class(2), class)
			}
			var used []api.Addr
			for j := range n {
				a, want := blockAt(2, int(class), j), free
				if b>>j%2 == 1 {
					want = published
					used = append(used, a)
				}
				if s.Is(a) != want {
					t.Fatalf("the class %d, bits %x: Is(%d): %d", class, b, a, s.Is(a))
				}
			}
			if !slices.Equal(s.Used(), used) {
				t.Fatalf("the class %d, bits %x: Used %v", class, b, s.Used())
			}
			if want := n - len(used) + n; s.Room(int(class)) != want {
				t.Fatalf("the class %d, bits %x: Room %d, not %d", class, b, s.Room(int(class)), want)
			}
		}
	}
}

// P6.1: what is handed to Of stays as it is, and is not kept.
func TestOfKeepsNothing(t *testing.T) {
	image := imageOf(head{1, 5}, head{0, 0}, head{3, 9})
	given := bytes.Clone(image)
	s := of(t, image)
	if !bytes.Equal(image, given) {
		t.Error("Of changed the image")
	}
	for i := range image {
		image[i] = 255
	}
	if l := s.Used(); !slices.Equal(l, []api.Addr{1088, 1216, 3136, 3712}) {
		t.Errorf("Used: %v", l)
	}
	if a := reserve(t, s, 1); a != 1152 {
		t.Errorf("Reserve(1): %d", a)
	}
	if a := reserve(t, s, 2); a != 2112 {
		t.Errorf("Reserve(2): %d", a)
	}
}

// P6.1, P6.2, P6.3: the chapter's examples.
func TestExamples(t *testing.T) {
	image := noughts(2)
	s, m := of(t, image), memory(t, image)
	if a, e := s.Reserve(1); a != 1088 || e != api.OK {
		t.Errorf("Reserve(1): %d, %d", a, e)
	}
	if a, e := s.Reserve(3); a != 2112 || e != api.OK {
		t.Errorf("Reserve(3): %d, %d", a, e)
	}
	if a, e := s.Reserve(2); a != 0 || e != api.ErrFull {
		t.Errorf("Reserve(2): %d, %d", a, e)
	}
	through(t, publish(t, s, m, 0, 1088))
	if s.Is(1088) != published {
		t.Errorf("Is(1088): %d", s.Is(1088))
	}
	image = m.Image()
	if word(image, 1024) != 1 || word(image, 1032) != 1 {
		t.Errorf("the header: %v", image[1024:1040])
	}
}

// P6.1: the least block of the class comes, then the first of the least slab without a class, till there is none.
func TestReserveAll(t *testing.T) {
	for class := 1; class <= 3; class++ {
		for _, slabs := range []int{1, 2, 3, api.MaxSlabs} {
			s := of(t, noughts(slabs))
			for i := 1; i <= slabs; i++ {
				if s.Class(i) != 0 {
					t.Errorf("slab %d has the class %d too early", i, s.Class(i))
				}
				for j := range counts[class] {
					left := (slabs-i)*counts[class] + counts[class] - j
					if s.Room(class) != left {
						t.Fatalf("Room(%d): %d, not %d", class, s.Room(class), left)
					}
					want := blockAt(i, class, j)
					if a := reserve(t, s, class); a != want || s.Is(a) != reserved {
						t.Fatalf("Reserve(%d): %d, not %d; it is %d", class, a, want, s.Is(a))
					}
				}
				if s.Class(i) != class {
					t.Errorf("slab %d has the class %d", i, s.Class(i))
				}
			}
			for c := 1; c <= 3; c++ {
				if a, e := s.Reserve(c); a != 0 || e != api.ErrFull || s.Room(c) != 0 {
					t.Errorf("Reserve(%d) of none: %d, %d; Room %d", c, a, e, s.Room(c))
				}
			}
			if len(s.Used()) != 0 {
				t.Errorf("Used: %v", s.Used())
			}
		}
	}
}

// P6.1: a slab without a class is taken only where none of that class has a free block, even if it lies ahead of them.
func TestReserveLeast(t *testing.T) {
	s := of(t, imageOf(head{0, 0}, head{3, 0x1f}, head{1, 0x7ffe}, head{3, 0x0d}, head{0, 0}, head{3, 0x0f}))
	for k, want := range []struct {
		class int
		at    api.Addr
	}{
		{3, blockAt(4, 3, 1)}, {1, blockAt(3, 1, 0)}, {3, blockAt(4, 3, 4)}, {3, blockAt(6, 3, 4)},
		{1, blockAt(1, 1, 0)}, {3, blockAt(5, 3, 0)}, {1, blockAt(1, 1, 1)}, {3, blockAt(5, 3, 1)},
	} {
		if a := reserve(t, s, want.class); a != want.at {
			t.Errorf("%d: Reserve(%d): %d, not %d", k, want.class, a, want.at)
		}
	}
	if a, e := s.Reserve(2); a != 0 || e != api.ErrFull {
		t.Errorf("Reserve(2): %d, %d", a, e)
	}
}

// P6.1: Reserve refuses a class that is none, and one of which no block is free; nothing has changed then.
func TestReserveRefused(t *testing.T) {
	s := of(t, imageOf(head{1, 1}, head{0, 0}))
	for _, class := range wrongClasses() {
		if a, e := s.Reserve(class); a != 0 || e != api.ErrArg {
			t.Errorf("Reserve(%d): %d, %d", class, a, e)
		}
	}
	if s.Class(2) != 0 || s.Room(1) != 29 || s.Room(2) != 7 || s.Room(3) != 5 {
		t.Errorf("it has changed: %d, %d, %d, %d", s.Class(2), s.Room(1), s.Room(2), s.Room(3))
	}
	full := of(t, imageOf(head{1, 0x7fff}))
	for class := 1; class <= 3; class++ {
		for range 2 {
			if a, e := full.Reserve(class); a != 0 || e != api.ErrFull {
				t.Errorf("Reserve(%d): %d, %d", class, a, e)
			}
		}
	}
	for _, class := range wrongClasses() {
		if a, e := full.Reserve(class); a != 0 || e != api.ErrArg {
			t.Errorf("Reserve(%d) where none is free: %d, %d", class, a, e)
		}
	}
}

// P6.1: what is released is free again, and comes by its address; its slab keeps its class.
func TestRelease(t *testing.T) {
	for class := 1; class <= 3; class++ {
		n := counts[class]
		s := of(t, noughts(1))
		for range n {
			reserve(t, s, class)
		}
		for _, j := range []int{n - 1, 0, 2, 1} {
			a := blockAt(1, class, j)
			if e := s.Release(a); e != api.OK || s.Is(a) != free {
				t.Errorf("Release(%d): %d; it is %d", a, e, s.Is(a))
			}
			if e := s.Release(a); e != api.ErrState {
				t.Errorf("Release(%d) again: %d", a, e)
			}
		}
		if s.Room(class) != 4 {
			t.Errorf("Room(%d): %d", class, s.Room(class))
		}
		for _, j := range []int{0, 1, 2, n - 1} {
			if a := reserve(t, s, class); a != blockAt(1, class, j) {
				t.Errorf("Reserve(%d): %d, not the block %d", class, a, j)
			}
		}
		for j := range n {
			if e := s.Release(blockAt(1, class, j)); e != api.OK {
				t.Errorf("Release of the block %d: %d", j, e)
			}
		}
		if s.Class(1) != class || s.Room(class) != n {
			t.Errorf("Class: %d; Room: %d", s.Class(1), s.Room(class))
		}
		if _, e := s.Reserve(class%3 + 1); e != api.ErrFull {
			t.Errorf("another class: %d", e)
		}
	}
}

// noBlocks are addresses at which no block begins, of an arena of the slabs 1 (class 1), 2 (class 3), 3 (none).
func noBlocks() []api.Addr {
	l := []api.Addr{0, 8, 64, 1023, 1024, 1032, 1087, 1089, 1096, 2047, 2048, 2056, 2112 + 64, 2112 + 128, 3072, 3072 - 64, 3136, 3136 + 64, 4096, 4160, 4096 + 1024, 66368, 66560, 1 << 20, 1 << 32, 1<<32 + 1088, 1<<63 + 1088, math.MaxUint64, math.MaxUint64 - 63}
	for a := api.Addr(1088); a < 4096; a++ {
		if a%64 != 0 {
			l = append(l, a)
		}
	}
	return l
}

// P6.1, P6.2, P6.4: of what is no block nothing is done, and it is nothing.
func TestNoBlock(t *testing.T) {
	image := imageOf(head{1, 3}, head{3, 2}, head{0, 0})
	s, m := of(t, image), memory(t, image)
	reserve(t, s, 1)
	used := s.Used()
	for _, a := range noBlocks() {
		if s.Is(a) != 0 {
			t.Errorf("Is(%d): %d", a, s.Is(a))
		}
		if e := s.Release(a); e != api.ErrState {
			t.Errorf("Release(%d): %d", a, e)
		}
		if x, e := s.Publish(m, 0, a); x != nil || e != api.ErrState {
			t.Errorf("Publish(%d): %v, %d", a, x, e)
		}
		if x, e := s.Free(m, 0, a); x != nil || e != api.ErrState {
			t.Errorf("Free(%d): %v, %d", a, x, e)
		}
	}
	if !slices.Equal(s.Used(), used) || s.Room(1) != 27 || s.Room(2) != 7 || s.Room(3) != 9 {
		t.Errorf("it has changed: %v, %d, %d, %d", s.Used(), s.Room(1), s.Room(2), s.Room(3))
	}
}

// states is an arena in which a block is of each kind: 1088 free, 1152 reserved, 1216 published, 1280 being given back, 1344 being published; their turns are on their way.
func states(t *testing.T) (*slab.Slab, *pmem.Mem) {
	t.Helper()
	image := imageOf(head{1, 0x0c})
	s, m := of(t, image), memory(t, image)
	for _, want := range []api.Addr{1088, 1152, 1344} {
		if a := reserve(t, s, 1); a != want {
			t.Fatalf("Reserve: %d, not %d", a, want)
		}
	}
	if e := s.Release(1088); e != api.OK {
		t.Fatal(e)
	}
	giveBack(t, s, m, 1, 1280)
	publish(t, s, m, 2, 1344)
	holdStates(t, s)
	return s, m
}

// holdStates says whether all blocks of states are as they were.
func holdStates(t *testing.T, s *slab.Slab) {
	t.Helper()
	for k, want := range []int{free, reserved, published, leaving, coming, free} {
		if a := blockAt(1, 1, k); s.Is(a) != want {
			t.Errorf("Is(%d): %d, not %d", a, s.Is(a), want)
		}
	}
	if l := s.Used(); !slices.Equal(l, []api.Addr{1216, 1280}) || s.Room(1) != 11 {
		t.Errorf("Used %v, Room %d", l, s.Room(1))
	}
}

// P6.1, P6.2, P6.4: Release and Publish are of reserved blocks alone, Free of published ones; what is refused changes nothing.
func TestStates(t *testing.T) {
	s, m := states(t)
	view := m.View()
	for k := range 15 {
		a, is := blockAt(1, 1, k), s.Is(blockAt(1, 1, k))
		if is != reserved {
			if e := s.Release(a); e != api.ErrState {
				t.Errorf("Release of one that is %d: %d", is, e)
			}
			if x, e := s.Publish(m, 0, a); x != nil || e != api.ErrState {
				t.Errorf("Publish of one that is %d: %v, %d", is, x, e)
			}
		}
		if is != published {
			if x, e := s.Free(m, 0, a); x != nil || e != api.ErrState {
				t.Errorf("Free of one that is %d: %v, %d", is, x, e)
			}
		}
		holdStates(t, s)
	}
	if !bytes.Equal(m.View(), view) || m.Stats() != (api.Stats{}) {
		t.Error("the memory is not as it was")
	}
}

// P6.2: a memory of another size, and a client that is none, are refused, ahead of what the block is.
func TestTurnArguments(t *testing.T) {
	s, m := states(t)
	refuse := func(m *pmem.Mem, client int, want api.Errno) {
		t.Helper()
		for _, a := range []api.Addr{1088, 1152, 1216, 1280, 1344, 0, 1, 1024} {
			if x, e := s.Publish(m, client, a); x != nil || e != want {
				t.Errorf("Publish(%d, %d): %v, %d", client, a, x, e)
			}
			if x, e := s.Free(m, client, a); x != nil || e != want {
				t.Errorf("Free(%d, %d): %v, %d", client, a, x, e)
			}
		}
		holdStates(t, s)
	}
	for _, size := range []int{64, 1024, 2048 - 64, 2048 + 64, 3072, 66560, api.MaxMem} {
		other, _ := pmem.New(size)
		for _, client := range []int{-1, 0, api.System, api.System + 1} {
			refuse(other, client, api.ErrArg)
		}
	}
	for _, client := range []int{-1, -2, api.System + 1, 128, math.MinInt, math.MaxInt, 1 << 32} {
		refuse(m, client, api.ErrArg)
		refuse(nil, client, api.ErrNil)
		refuse(&pmem.Mem{}, client, api.ErrNil)
	}
	refuse(nil, 0, api.ErrNil)
	refuse(&pmem.Mem{}, 0, api.ErrNil)
}

// P6.2, P6.3: each client, System too, may have a turn.
func TestClients(t *testing.T) {
	for client := range api.System + 1 {
		image := noughts(1)
		s, m := of(t, image), memory(t, image)
		a := reserve(t, s, 3)
		through(t, publish(t, s, m, client, a))
		if b := m.Image(); word(b, 1024) != 3 || word(b, 1032) != 1 {
			t.Errorf("client %d: published, the header is %v", client, b[1024:1040])
		}
		through(t, giveBack(t, s, m, client, a))
		if b := m.Image(); word(b, 1024) != 3 || word(b, 1032) != 0 {
			t.Errorf("client %d: given back, the header is %v", client, b[1024:1040])
		}
	}
}

// did is how many primitives were done between.
func did(m *pmem.Mem, before api.Stats) int {
	n := m.Stats()
	return int(n.Loads + n.Stores + n.Flushes + n.Fences - before.Loads - before.Stores - before.Flushes - before.Fences)
}

// watched does a turn's steps till it is done, and holds what each of them may do: meanwhile the block is one thing, then another one, and in the memory no more than the header's two words are touched, each to what it is to be.
func watched(t *testing.T, s *slab.Slab, m *pmem.Mem, x *slab.Turn, a api.Addr, meanwhile, then int, class, from, to uint64) {
	t.Helper()
	at := 1024 * geo.Slab(a)
	first, bitsWere := m.View(), from
	for n := 1; ; n++ {
		if s.Is(a) != meanwhile {
			t.Fatalf("ahead of step %d: Is(%d): %d", n, a, s.Is(a))
		}
		before := m.Stats()
		done, e := x.Step()
		if e != api.OK || n > 20 {
			t.Fatalf("step %d: %d", n, e)
		}
		if did(m, before) > 1 {
			t.Fatalf("step %d did %d primitives", n, did(m, before))
		}
		view := m.View()
		c, b := word(view, at), word(view, at+8)
		if c != class && c != word(first, at) || b != bitsWere && b != to {
			t.Fatalf("step %d: the header has %d, %x", n, c, b)
		}
		if b == to && from != to && c != class {
			t.Fatalf("step %d: bits of a slab of the class %d", n, c)
		}
		bitsWere = b
		set(view, at, word(first, at))
		set(view, at+8, word(first, at+8))
		if !bytes.Equal(view, first) {
			t.Fatalf("step %d touched what is not the header's", n)
		}
		if done {
			break
		}
	}
	if s.Is(a) != then {
		t.Fatalf("behind the turn: Is(%d): %d", a, s.Is(a))
	}
	m.Crash()
	if b := m.Image(); word(b, at) != class || word(b, at+8) != to {
		t.Fatalf("what has lasted of the header: %v", b[at:at+16])
	}
}

// P6.2, P6.3: a turn alone, of each block of each class: what it does step by step, and that it has lasted when it is done.
func TestTurnAlone(t *testing.T) {
	for class := 1; class <= 3; class++ {
		image := noughts(2)
		s, m := of(t, image), memory(t, image)
		for slab := 1; slab <= 2; slab++ {
			b := uint64(0)
			for j := range counts[class] {
				a := reserve(t, s, class)
				x := publish(t, s, m, j, a)
				watched(t, s, m, x, a, coming, published, uint64(class), b, b|1<<j)
				b |= 1 << j
				stays(t, s, m, x, a, published)
			}
			for j := range counts[class] {
				a := blockAt(slab, class, j)
				x := giveBack(t, s, m, api.System, a)
				watched(t, s, m, x, a, leaving, free, uint64(class), b, b&^(1<<j))
				b &^= 1 << j
				stays(t, s, m, x, a, free)
				again := reserve(t, s, class) // it is the least one
				if again != a {
					t.Fatalf("Reserve(%d): %d, not %d", class, again, a)
				}
			}
		}
	}
}

// stays says whether a turn that is done does nothing any more.
func stays(t *testing.T, s *slab.Slab, m *pmem.Mem, x *slab.Turn, a api.Addr, is int) {
	t.Helper()
	before, had := m.Copy(), m.Stats()
	for range 3 {
		if done, e := x.Step(); !done || e != api.OK {
			t.Errorf("a step of a turn that is done: %t, %d", done, e)
		}
	}
	if !m.Same(before) || m.Stats() != had || s.Is(a) != is {
		t.Errorf("a turn that is done went on")
	}
}

// P6.3: an elder turn of a block that is done changes nothing of what became of it since.
func TestElderTurn(t *testing.T) {
	image := noughts(1)
	s, m := of(t, image), memory(t, image)
	a := reserve(t, s, 2)
	x := publish(t, s, m, 0, a)
	through(t, x)
	y := giveBack(t, s, m, 0, a)
	stays(t, s, m, x, a, leaving)
	through(t, y)
	stays(t, s, m, x, a, free)
	reserve(t, s, 2)
	stays(t, s, m, x, a, reserved)
	stays(t, s, m, y, a, reserved)
	z := publish(t, s, m, 0, a)
	stays(t, s, m, y, a, coming)
	through(t, z)
	stays(t, s, m, y, a, published)
	if s.Room(2) != 6 {
		t.Errorf("Room(2): %d", s.Room(2))
	}
}

// P6.3: of no turn, of a zero one, a step is ErrNil, and done.
func TestNoTurn(t *testing.T) {
	var none *slab.Turn
	var zero slab.Turn
	for _, x := range []*slab.Turn{none, &zero, {}} {
		for range 2 {
			if done, e := x.Step(); !done || e != api.ErrNil {
				t.Errorf("Step: %t, %d", done, e)
			}
		}
	}
}

// P6.3: a turn whose memory is there no more is over by the error, again and again.
func TestMemoryGone(t *testing.T) {
	for at := range 4 {
		image := noughts(1)
		s, m := of(t, image), memory(t, image)
		x := publish(t, s, m, 0, reserve(t, s, 1))
		for range at {
			if done, e := x.Step(); e != api.OK || done {
				break
			}
		}
		if done, _ := x.Step(); done {
			continue
		}
		*m = pmem.Mem{}
		for range 3 {
			if done, e := x.Step(); !done || e != api.ErrNil {
				t.Errorf("behind %d steps: %t, %d", at+1, done, e)
			}
		}
		if s.Is(1088) == published {
			t.Errorf("behind %d steps: it is published", at+1)
		}
	}
}

// P6.1, P6.2, P6.4: of no blocks, of zero ones, calls are ErrNil ahead of all else, and looks tell nothing.
func TestNoBlocks(t *testing.T) {
	m, _ := pmem.New(2048)
	var none *slab.Slab
	for _, s := range []*slab.Slab{none, {}} {
		for _, class := range append(wrongClasses(), 1, 2, 3) {
			if a, e := s.Reserve(class); a != 0 || e != api.ErrNil {
				t.Errorf("Reserve(%d): %d, %d", class, a, e)
			}
			if s.Room(class) != 0 {
				t.Errorf("Room(%d): %d", class, s.Room(class))
			}
		}
		for _, a := range []api.Addr{0, 1, 1024, 1088, math.MaxUint64} {
			if e := s.Release(a); e != api.ErrNil {
				t.Errorf("Release(%d): %d", a, e)
			}
			for _, client := range []int{-1, 0, api.System, 65} {
				for _, y := range []*pmem.Mem{m, nil, {}} {
					if x, e := s.Publish(y, client, a); x != nil || e != api.ErrNil {
						t.Errorf("Publish(%d): %v, %d", a, x, e)
					}
					if x, e := s.Free(y, client, a); x != nil || e != api.ErrNil {
						t.Errorf("Free(%d): %v, %d", a, x, e)
					}
				}
			}
			if s.Is(a) != 0 {
				t.Errorf("Is(%d): %d", a, s.Is(a))
			}
		}
		for _, i := range []int{math.MinInt, -1, 0, 1, 64, math.MaxInt} {
			if s.Class(i) != 0 {
				t.Errorf("Class(%d): %d", i, s.Class(i))
			}
		}
		if s.Slabs() != 0 || len(s.Used()) != 0 {
			t.Errorf("Slabs, Used: %d, %v", s.Slabs(), s.Used())
		}
	}
}

// P6.4: Class of a slab that there is not, Room of a class that is none: 0.
func TestLooksOfNone(t *testing.T) {
	l := make([]head, api.MaxSlabs)
	for i := range l {
		l[i] = head{uint64(i%3 + 1), 0}
	}
	s := of(t, imageOf(l...))
	for i := 1; i <= api.MaxSlabs; i++ {
		if s.Class(i) != (i-1)%3+1 {
			t.Errorf("Class(%d): %d", i, s.Class(i))
		}
	}
	for _, i := range []int{0, -1, 65, 66, math.MinInt, math.MaxInt, 1 << 32, 1<<32 + 1} {
		if s.Class(i) != 0 {
			t.Errorf("Class(%d): %d", i, s.Class(i))
		}
	}
	if c := of(t, imageOf(head{1, 0})).Class(2); c != 0 {
		t.Errorf("Class(2) of one slab: %d", c)
	}
	for _, class := range wrongClasses() {
		if s.Room(class) != 0 || of(t, noughts(3)).Room(class) != 0 {
			t.Errorf("Room(%d): %d", class, s.Room(class))
		}
	}
	if s.Room(1) != 22*15 || s.Room(2) != 21*7 || s.Room(3) != 21*5 {
		t.Errorf("Room: %d, %d, %d", s.Room(1), s.Room(2), s.Room(3))
	}
}

// P6.4: what Used answered is nobody else's.
func TestUsedIsNew(t *testing.T) {
	s := of(t, imageOf(head{3, 0x1f}))
	l := s.Used()
	for i := range l {
		l[i] = 0
	}
	_ = append(l[:0], 7, 7)
	if l := s.Used(); !slices.Equal(l, []api.Addr{1088, 1280, 1472, 1664, 1856}) {
		t.Errorf("Used: %v", l)
	}
}
