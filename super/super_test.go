package super_test

import (
	"math"
	"slices"
	"testing"

	"levee/api"
	"levee/super"
)

// wrongSlabs are numbers of slabs that no arena has.
func wrongSlabs() []int {
	return []int{math.MinInt, math.MinInt + 1, -1 << 54, -1 << 32, -65, -64, -2, -1, 0, 65, 66, 128, 1024, 2048, 1 << 17, 1 << 31, 1 << 32, 1<<32 + 1, 1<<54 - 1, 1 << 54, 1<<54 + 1, 1 << 62, math.MaxInt - 1, math.MaxInt}
}

// farPlaces are addresses behind the greatest arena.
func farPlaces() []api.Addr {
	return []api.Addr{66560, 66624, 67584, 1 << 20, 1<<32 + 1088, 1 << 40, 1 << 63, 1<<63 + 1088, math.MaxUint64 - 1023, math.MaxUint64 - 63, math.MaxUint64}
}

// isPlace says by the chapter's words whether a class 3 block of one of so many slabs begins there: five of 192 bytes, behind a header of 64.
func isPlace(a, slabs int) bool {
	in := a%1024 - 64
	return a >= 1024 && a < 1024*(1+slabs) && in >= 0 && in < 5*192 && in%192 == 0
}

// someSupers are superblocks of many sizes and roots, most of which may not be.
func someSupers() []api.Super {
	list := []api.Super{{}, {Size: 2048, Root: 1088}, {Size: 66560, Root: 66432}, {Size: math.MaxUint64}, {Root: math.MaxUint64}, {Size: math.MaxUint64, Root: math.MaxUint64}, {Size: api.Magic, Root: api.Magic}, {Size: ^uint64(api.Magic), Root: 1}}
	x := uint64(88172645463325252)
	for range 50 {
		s := api.Super{Size: x}
		x = x*6364136223846793005 + 1442695040888963407
		s.Root = api.Addr(x)
		x = x*6364136223846793005 + 1442695040888963407
		list = append(list, s)
	}
	return list
}

// P4.1: New of each number of slabs is the superblock, for each root that may be, and ErrArg for each that may not.
func TestNew(t *testing.T) {
	for _, slabs := range []int{1, 2, 3, 31, 63, 64} {
		for a := range 67000 {
			want, code := api.Super{}, api.ErrArg
			if isPlace(a, slabs) {
				want, code = api.Super{Size: uint64(1024 * (1 + slabs)), Root: api.Addr(a)}, api.OK
			}
			if s, e := super.New(slabs, api.Addr(a)); s != want || e != code {
				t.Errorf("New(%d, %d): %v, %d", slabs, a, s, e)
			}
		}
		for _, a := range farPlaces() {
			if s, e := super.New(slabs, a); s != (api.Super{}) || e != api.ErrArg {
				t.Errorf("New(%d, %d): %v, %d", slabs, a, s, e)
			}
		}
	}
}

// P4.1: New of every number of slabs that may be, with the first and the last root; the next slab's first one is none.
func TestNewSlabs(t *testing.T) {
	for slabs := 1; slabs <= 64; slabs++ {
		for _, root := range []api.Addr{1088, api.Addr(1024*slabs + 64 + 4*192)} {
			want := api.Super{Size: uint64(1024 * (1 + slabs)), Root: root}
			if s, e := super.New(slabs, root); s != want || e != api.OK {
				t.Errorf("New(%d, %d): %v, %d", slabs, root, s, e)
			}
		}
		next := api.Addr(1024*(slabs+1) + 64)
		if s, e := super.New(slabs, next); s != (api.Super{}) || e != api.ErrArg {
			t.Errorf("New(%d, %d): %v, %d", slabs, next, s, e)
		}
	}
}

// P4.1: New of a number of slabs that may not be is ErrArg, whatever the root.
func TestNewWrong(t *testing.T) {
	for _, slabs := range wrongSlabs() {
		for _, a := range append(farPlaces(), 0, 64, 1024, 1088, 1280, 1856, 2112, 65600) {
			if s, e := super.New(slabs, a); s != (api.Super{}) || e != api.ErrArg {
				t.Errorf("New(%d, %d): %v, %d", slabs, a, s, e)
			}
		}
	}
}

// P4.1: May of each root, of the size that the superblock says.
func TestMayRoot(t *testing.T) {
	for _, slabs := range []int{1, 2, 3, 31, 63, 64} {
		size := 1024 * (1 + slabs)
		for a := range 67000 {
			s := api.Super{Size: uint64(size), Root: api.Addr(a)}
			if super.May(s, size) != isPlace(a, slabs) {
				t.Errorf("May(%v, %d): %v", s, size, super.May(s, size))
			}
		}
		for _, a := range farPlaces() {
			s := api.Super{Size: uint64(size), Root: a}
			if super.May(s, size) {
				t.Errorf("May(%v, %d)", s, size)
			}
		}
	}
}

// P4.1: May only of the very size that the superblock says, and of one that an arena may have.
func TestMaySize(t *testing.T) {
	for size := -2048; size <= 69000; size++ {
		may := size%1024 == 0 && size >= 2048 && size <= 66560
		s := api.Super{Size: uint64(size), Root: 1088}
		if super.May(s, size) != may {
			t.Errorf("May(%v, %d): %v", s, size, super.May(s, size))
		}
		for _, other := range []int{0, -size - 1, size - 1, size + 1, size - 1024, size + 1024, size + 1<<32} {
			if other != size && super.May(s, other) {
				t.Errorf("May(%v, %d)", s, other)
			}
		}
	}
}

// P4.1: May of sizes that are far off, and of a superblock's size that is another one in the high bits alone.
func TestMayWrong(t *testing.T) {
	for _, size := range []int{math.MinInt, math.MinInt + 2048, -2048, 0, 1, api.MaxMem, 1<<32 + 2048, math.MaxInt - 1023, math.MaxInt} {
		if s := (api.Super{Size: uint64(size), Root: 1088}); super.May(s, size) {
			t.Errorf("May(%v, %d)", s, size)
		}
	}
	for _, bit := range []uint{0, 9, 12, 17, 31, 32, 40, 62, 63} {
		if s := (api.Super{Size: 2048 ^ 1<<bit, Root: 1088}); super.May(s, 2048) {
			t.Errorf("May(%v, 2048)", s)
		}
	}
	if super.May(api.Super{}, 0) || super.May(api.Super{}, 2048) || super.May(api.Super{Size: 2048}, 2048) {
		t.Error("the zero superblock may be")
	}
}

// P4.1: what New answers may be, of its size alone.
func TestNewMay(t *testing.T) {
	for slabs := 1; slabs <= 64; slabs++ {
		for _, root := range super.Places(slabs) {
			s, e := super.New(slabs, root)
			if e != api.OK || !super.May(s, 1024*(1+slabs)) {
				t.Errorf("New(%d, %d): %v, %d", slabs, root, s, e)
			}
			if super.May(s, 1024*slabs) || super.May(s, 1024*(2+slabs)) {
				t.Errorf("%v may be of another size", s)
			}
		}
	}
}

// P4.2: Words are the eight, of any size, any root.
func TestWords(t *testing.T) {
	for _, s := range someSupers() {
		want := [8]uint64{0x5249414654534146, s.Size, uint64(s.Root), math.MaxUint64 - s.Size}
		if w := super.Words(s); w != want {
			t.Errorf("Words(%v): %v", s, w)
		}
	}
}

// P4.2: Of any size, any root is the superblock, whether it may be or not.
func TestOf(t *testing.T) {
	for _, s := range someSupers() {
		w := [8]uint64{0x5249414654534146, s.Size, uint64(s.Root), math.MaxUint64 - s.Size}
		if got, e := super.Of(w); got != s || e != api.OK {
			t.Errorf("Of(%v): %v, %d", w, got, e)
		}
	}
}

// P4.2: Of words of which one is not what it has to be, or all are, is ErrCorrupt.
func TestOfWrong(t *testing.T) {
	const size = 3072
	right := [8]uint64{api.Magic, size, 1088, math.MaxUint64 - size}
	if s, e := super.Of(right); s != (api.Super{Size: size, Root: 1088}) || e != api.OK {
		t.Fatal(s, e)
	}
	for k := range right {
		for _, x := range []uint64{0, 1, size, 1088, api.Magic, api.NodeMagic, 1 << 63, math.MaxUint64} {
			w := right
			w[k] = x
			if k == 2 || w == right {
				continue
			}
			if s, e := super.Of(w); s != (api.Super{}) || e != api.ErrCorrupt {
				t.Errorf("Of(%v): %v, %d", w, s, e)
			}
		}
	}
	for _, w := range [][8]uint64{
		{},
		{1, 2, 3, 4, 5, 6, 7, 8},
		{api.Magic},
		{api.Magic, size, 1088},
		{api.Magic, size, 1088, size},
		{api.Magic, size, 1088, -size & math.MaxUint64},
		{0, size, 1088, math.MaxUint64 - size},
		{math.MaxUint64, math.MaxUint64, math.MaxUint64, math.MaxUint64, math.MaxUint64, math.MaxUint64, math.MaxUint64, math.MaxUint64},
	} {
		if s, e := super.Of(w); s != (api.Super{}) || e != api.ErrCorrupt {
			t.Errorf("Of(%v): %v, %d", w, s, e)
		}
	}
}

// P4.2: RootAt is where the root stands among the words, in the arena's first line.
func TestRootAt(t *testing.T) {
	if super.RootAt() != 16 {
		t.Error(super.RootAt())
	}
	w := super.Words(api.Super{Size: 2048, Root: 1664})
	if w[super.RootAt()/8] != 1664 {
		t.Error(w)
	}
}

// P4.3: Places are all roots that may be, rising.
func TestPlaces(t *testing.T) {
	for slabs := 1; slabs <= 64; slabs++ {
		var want []api.Addr
		for a := range 67000 {
			if isPlace(a, slabs) {
				want = append(want, api.Addr(a))
			}
		}
		if len(want) != 5*slabs {
			t.Fatal(slabs, len(want))
		}
		if got := super.Places(slabs); !slices.Equal(got, want) {
			t.Errorf("Places(%d): %v", slabs, got)
		}
	}
}

// P4.3: of a number that may not be there are none.
func TestPlacesWrong(t *testing.T) {
	for _, slabs := range wrongSlabs() {
		if got := super.Places(slabs); len(got) != 0 {
			t.Errorf("Places(%d): %d", slabs, len(got))
		}
	}
}

// P4.3: a root is one of the places, if New takes it, and only then.
func TestPlacesNew(t *testing.T) {
	for _, slabs := range []int{1, 2, 17, 64} {
		places := super.Places(slabs)
		for a := api.Addr(0); a < 67000; a += 8 {
			_, e := super.New(slabs, a)
			if (e == api.OK) != slices.Contains(places, a) {
				t.Errorf("New(%d, %d): %d", slabs, a, e)
			}
		}
	}
}

// P4.3: what Places answers is the caller's own.
func TestPlacesApart(t *testing.T) {
	a := super.Places(2)
	for i := range a {
		a[i] = 7
	}
	want := []api.Addr{1088, 1280, 1472, 1664, 1856, 2112, 2304, 2496, 2688, 2880}
	if b := super.Places(2); !slices.Equal(b, want) {
		t.Error(b)
	}
}

// P4.4: Of of Words is the superblock, of any size, any root.
func TestOfWords(t *testing.T) {
	for _, s := range someSupers() {
		if got, e := super.Of(super.Words(s)); got != s || e != api.OK {
			t.Errorf("Of of Words(%v): %v, %d", s, got, e)
		}
	}
}

// P4.4: words that differ in one bit are no superblock's, but in the root: then they are those of another root.
func TestOneBit(t *testing.T) {
	for _, s := range someSupers() {
		for k := range 8 {
			for bit := range 64 {
				w := super.Words(s)
				w[k] ^= 1 << bit
				want, code := api.Super{}, api.ErrCorrupt
				if k == 2 {
					want, code = api.Super{Size: s.Size, Root: s.Root ^ 1<<bit}, api.OK
				}
				if got, e := super.Of(w); got != want || e != code {
					t.Errorf("%v, bit %d of word %d: %v, %d", s, bit, k, got, e)
				}
			}
		}
	}
}

// The chapter's examples.
func TestExamples(t *testing.T) {
	s, e := super.New(1, 1088)
	if w := super.Words(s); e != api.OK || w != [8]uint64{api.Magic, 2048, 1088, 18446744073709549567, 0, 0, 0, 0} {
		t.Error(w, e)
	}
	if s, e := super.New(1, 1152); s != (api.Super{}) || e != api.ErrArg {
		t.Error(s, e)
	}
	if s, e := super.New(1, 2112); s != (api.Super{}) || e != api.ErrArg {
		t.Error(s, e)
	}
	if s, e := super.New(2, 2112); s != (api.Super{Size: 3072, Root: 2112}) || e != api.OK {
		t.Error(s, e)
	}
	if super.RootAt() != 16 {
		t.Error(super.RootAt())
	}
	if got := super.Places(1); !slices.Equal(got, []api.Addr{1088, 1280, 1472, 1664, 1856}) {
		t.Error(got)
	}
}
