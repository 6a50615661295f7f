package geo_test

import (
	"math"
	"testing"

	"levee/api"
	"levee/geo"
)

// What the chapter says of the classes 1 to 3, written out.
var (
	bytesOf  = [4]int{0, 64, 128, 192}
	blocksOf = [4]int{0, 15, 7, 5}
)

// wrongInts are no slabs', classes', blocks', places' numbers.
func wrongInts() []int {
	return []int{math.MinInt, math.MinInt + 1, -1 << 32, -1024, -65, -64, -8, -3, -2, -1, 1 << 17, 1 << 31, 1 << 32, 1<<32 + 1, 1<<54 + 1, 1<<56 + 1, 1<<58 + 1, 1<<60 + 1, 1 << 62, math.MaxInt - 1, math.MaxInt}
}

// farPlaces are addresses behind the greatest arena.
func farPlaces() []api.Addr {
	return []api.Addr{66560, 66561, 66624, 67584, 1 << 20, 1<<32 + 1088, 1 << 40, 1<<63 + 1088, 1 << 63, math.MaxUint64 - 1023, math.MaxUint64 - 63, math.MaxUint64}
}

// P3.1: Slabs is the number, of each size that may be; of all others 0, no.
func TestSlabs(t *testing.T) {
	want := map[int]int{}
	for n := 1; n <= 64; n++ {
		want[1024+1024*n] = n
	}
	for size := -3000; size <= 70000; size++ {
		n, ok := want[size]
		if m, may := geo.Slabs(size); m != n || may != ok {
			t.Errorf("Slabs(%d): %d, %v", size, m, may)
		}
	}
	for _, size := range append(wrongInts(), api.MaxMem, math.MinInt+1024, math.MaxInt-1023, 1<<32+2048) {
		if n, ok := geo.Slabs(size); n != 0 || ok {
			t.Errorf("Slabs(%d): %d, %v", size, n, ok)
		}
	}
}

// P3.1: Size is how many bytes so many slabs have, with the first 1024; of no number of slabs 0.
func TestSize(t *testing.T) {
	for n := 1; n <= 64; n++ {
		if geo.Size(n) != 1024*(1+n) {
			t.Errorf("Size(%d): %d", n, geo.Size(n))
		}
	}
	for _, n := range append(wrongInts(), 0, 65, 66, 1024, 2048) {
		if geo.Size(n) != 0 {
			t.Errorf("Size(%d): %d", n, geo.Size(n))
		}
	}
}

// P3.1: Class is a value's, by its bytes; of those that are too long, and of fewer than none, there is none.
func TestClass(t *testing.T) {
	for n := -300; n <= 1100; n++ {
		want := 0
		switch {
		case n < 0:
		case n <= 56:
			want = 1
		case n <= 120:
			want = 2
		}
		if geo.Class(n) != want {
			t.Errorf("Class(%d): %d, not %d", n, geo.Class(n), want)
		}
	}
	for _, n := range wrongInts() {
		if geo.Class(n) != 0 {
			t.Errorf("Class(%d): %d", n, geo.Class(n))
		}
	}
}

// P3.1: Bytes and Blocks of each class; of none 0.
func TestClasses(t *testing.T) {
	for class := 1; class <= 3; class++ {
		if geo.Bytes(class) != bytesOf[class] || geo.Blocks(class) != blocksOf[class] {
			t.Errorf("class %d: %d, %d", class, geo.Bytes(class), geo.Blocks(class))
		}
	}
	for _, class := range append(wrongInts(), 0, 4, 5, 64) {
		if geo.Bytes(class) != 0 || geo.Blocks(class) != 0 {
			t.Errorf("class %d: %d, %d", class, geo.Bytes(class), geo.Blocks(class))
		}
	}
}

// P3.2: Header and Bits of each slab; of none 0.
func TestHeader(t *testing.T) {
	for slab := 1; slab <= 64; slab++ {
		at := api.Addr(1024 * slab)
		if geo.Header(slab) != at || geo.Bits(slab) != at+8 {
			t.Errorf("slab %d: %d, %d", slab, geo.Header(slab), geo.Bits(slab))
		}
	}
	for _, slab := range append(wrongInts(), 0, 65, 66, 1024) {
		if geo.Header(slab) != 0 || geo.Bits(slab) != 0 {
			t.Errorf("slab %d: %d, %d", slab, geo.Header(slab), geo.Bits(slab))
		}
	}
}

// P3.2: Block of each slab, class and number that there is.
func TestBlock(t *testing.T) {
	for slab := 1; slab <= 64; slab++ {
		for class := 1; class <= 3; class++ {
			for j := range blocksOf[class] {
				want := api.Addr(1024*slab + 64 + bytesOf[class]*j)
				if a := geo.Block(slab, class, j); a != want {
					t.Errorf("Block(%d, %d, %d): %d, not %d", slab, class, j, a, want)
				}
			}
		}
	}
}

// P3.2: Block of a slab, a class, a block that there is not is 0, whatever the two others are.
func TestBlockWrong(t *testing.T) {
	none := func(slab, class, j int) {
		if a := geo.Block(slab, class, j); a != 0 {
			t.Errorf("Block(%d, %d, %d): %d", slab, class, j, a)
		}
	}
	for _, x := range wrongInts() {
		for class := 1; class <= 3; class++ {
			none(x, class, 0)
			none(1, class, x)
			none(64, class, x)
		}
		none(1, x, 0)
		none(64, x, 1)
		none(x, x, x)
	}
	for class := 0; class <= 4; class++ {
		none(0, class, 0)
		none(65, class, 0)
		none(1, class, -1)
	}
	for _, class := range []int{0, 4, 5} {
		for j := -1; j <= 16; j++ {
			none(1, class, j)
		}
	}
	for class := 1; class <= 3; class++ {
		for j := blocksOf[class]; j <= 64; j++ {
			none(2, class, j)
		}
	}
}

// P3.3: Slab of every address of the greatest arena, and around it.
func TestSlab(t *testing.T) {
	for a := range 67000 {
		want := a / 1024
		if want > 64 {
			want = 0
		}
		if slab := geo.Slab(api.Addr(a)); slab != want {
			t.Errorf("Slab(%d): %d, not %d", a, slab, want)
		}
	}
	for _, a := range farPlaces() {
		if geo.Slab(a) != 0 {
			t.Errorf("Slab(%d): %d", a, geo.Slab(a))
		}
	}
}

// P3.3: Index of every address of the greatest arena is the block that begins there, and of no other address.
func TestIndex(t *testing.T) {
	for class := 1; class <= 3; class++ {
		want := map[int]int{}
		for slab := 1; slab <= 64; slab++ {
			for j := range blocksOf[class] {
				want[1024*slab+64+bytesOf[class]*j] = j
			}
		}
		for a := range 67000 {
			j, ok := want[a]
			if k, is := geo.Index(api.Addr(a), class); k != j || is != ok {
				t.Errorf("Index(%d, %d): %d, %v", a, class, k, is)
			}
		}
		for _, a := range farPlaces() {
			if j, ok := geo.Index(a, class); j != 0 || ok {
				t.Errorf("Index(%d, %d): %d, %v", a, class, j, ok)
			}
		}
	}
}

// P3.3: no block is of a class that there is not.
func TestIndexWrong(t *testing.T) {
	for _, class := range append(wrongInts(), 0, 4, 5) {
		for _, a := range append(farPlaces(), 0, 1, 64, 1023, 1024, 1088, 1152, 1280, 2112) {
			if j, ok := geo.Index(a, class); j != 0 || ok {
				t.Errorf("Index(%d, %d): %d, %v", a, class, j, ok)
			}
		}
	}
}

// P3.3: Line is where the line begins, of any address.
func TestLine(t *testing.T) {
	for a := range api.Addr(4096) {
		if geo.Line(a) != a/64*64 {
			t.Errorf("Line(%d): %d", a, geo.Line(a))
		}
	}
	for _, at := range []api.Addr{1 << 20, 1 << 32, 1 << 40, 1 << 63, math.MaxUint64 - 63} {
		for i := range api.Addr(64) {
			if geo.Line(at+i) != at {
				t.Errorf("Line(%d): %d", at+i, geo.Line(at+i))
			}
		}
	}
}

// P3.4: Key, Ptr and Field in nodes at some bases, from 0 to 2^40.
func TestInNode(t *testing.T) {
	for _, base := range []api.Addr{0, 64, 1088, 1280, 2880, 66304, 1 << 20, 1 << 31, 1 << 32, 1<<40 - 64, 1 << 40} {
		for i := range 8 {
			key := base + 64 + api.Addr(16*i)
			if geo.Key(base, i) != key || geo.Ptr(base, i) != key+8 {
				t.Errorf("%d, entry %d: %d, %d", base, i, geo.Key(base, i), geo.Ptr(base, i))
			}
			if geo.Field(base, i) != base+api.Addr(8*i) {
				t.Errorf("%d, word %d: %d", base, i, geo.Field(base, i))
			}
		}
		for _, i := range append(wrongInts(), 8, 9, 16, 64) {
			if geo.Key(base, i) != 0 || geo.Ptr(base, i) != 0 || geo.Field(base, i) != 0 {
				t.Errorf("%d, %d: %d, %d, %d", base, i, geo.Key(base, i), geo.Ptr(base, i), geo.Field(base, i))
			}
		}
	}
}

// P3.4: a node's words are all within its block, no two at one place.
func TestInNodeApart(t *testing.T) {
	for j := range geo.Blocks(3) {
		base := geo.Block(5, 3, j)
		seen := map[api.Addr]int{}
		for i := range 8 {
			for _, a := range []api.Addr{geo.Key(base, i), geo.Ptr(base, i), geo.Field(base, i)} {
				seen[a]++
			}
		}
		if len(seen) != 24 {
			t.Errorf("block %d: %d places", j, len(seen))
		}
		for a := range seen {
			if a < base || a+8 > base+192 || a%8 != 0 {
				t.Errorf("block %d: a word at %d", j, a)
			}
		}
	}
}

// P3.5: blocks of one class lie behind the header, within the slab, none on another one, each at the beginning of a line; as many as there is room for.
func TestBlocksApart(t *testing.T) {
	for slab := 1; slab <= 64; slab++ {
		for class := 1; class <= 3; class++ {
			size := api.Addr(geo.Bytes(class))
			from := geo.Header(slab) + 64
			for j := range geo.Blocks(class) {
				a := geo.Block(slab, class, j)
				if a < from || a%64 != 0 || geo.Line(a) != a {
					t.Errorf("Block(%d, %d, %d): %d, of %d on", slab, class, j, a, from)
				}
				from = a + size
			}
			end := geo.Header(slab) + 1024
			if from > end || from+size <= end {
				t.Errorf("slab %d, class %d: blocks up to %d of %d", slab, class, from, end)
			}
		}
	}
}

// P3.5: Index of Block is the block, Slab of it its slab, and so is Slab of each of its bytes.
func TestBlockAndBack(t *testing.T) {
	for slab := 1; slab <= 64; slab++ {
		for class := 1; class <= 3; class++ {
			for j := range geo.Blocks(class) {
				a := geo.Block(slab, class, j)
				if k, ok := geo.Index(a, class); k != j || !ok {
					t.Errorf("Index(%d, %d): %d, %v, not %d", a, class, k, ok, j)
				}
				for i := range geo.Bytes(class) {
					if geo.Slab(a+api.Addr(i)) != slab {
						t.Errorf("Slab(%d): %d, not %d", a+api.Addr(i), geo.Slab(a+api.Addr(i)), slab)
					}
				}
			}
		}
	}
}

// P3.5: Size of Slabs is the size, Slabs of Size the slabs; the greatest arena is no greater than a memory may be.
func TestSizeAndBack(t *testing.T) {
	for n := 1; n <= api.MaxSlabs; n++ {
		m, ok := geo.Slabs(geo.Size(n))
		if m != n || !ok || geo.Size(m) != 1024*(1+n) {
			t.Errorf("%d slabs: %d, %v", n, m, ok)
		}
	}
	if size := geo.Size(api.MaxSlabs); size > api.MaxMem || size%api.LineSize != 0 {
		t.Error(size)
	}
}

// P3.1, P3.5: a class's blocks have room for its values, and a word for their length; those of the class below have not.
func TestClassHasRoom(t *testing.T) {
	for n := 0; n <= api.MaxValue; n++ {
		class := geo.Class(n)
		if 8+n > geo.Bytes(class) || class > 1 && 8+n <= geo.Bytes(class-1) {
			t.Errorf("Class(%d): %d", n, class)
		}
	}
}

// The chapter's examples.
func TestExamples(t *testing.T) {
	if a := geo.Block(2, 3, 4); a != 2880 {
		t.Error(a)
	}
	if j, ok := geo.Index(2880, 3); j != 4 || !ok {
		t.Error(j, ok)
	}
	if j, ok := geo.Index(2880, 1); j != 12 || !ok {
		t.Error(j, ok)
	}
	if geo.Slab(2880) != 2 || geo.Size(64) != 66560 || geo.Class(57) != 2 {
		t.Error(geo.Slab(2880), geo.Size(64), geo.Class(57))
	}
	if n, ok := geo.Slabs(2048); n != 1 || !ok {
		t.Error(n, ok)
	}
	if n, ok := geo.Slabs(1024); n != 0 || ok {
		t.Error(n, ok)
	}
	if geo.Key(2880, 7) != 3056 || geo.Ptr(2880, 0) != 2952 || geo.Field(2880, 3) != 2904 {
		t.Error(geo.Key(2880, 7), geo.Ptr(2880, 0), geo.Field(2880, 3))
	}
}
