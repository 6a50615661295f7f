package bits_test

import (
	"math"
	"slices"
	"testing"

	"levee/api"
	"levee/bits"
)

// wrongBits are numbers of no bit of a word.
func wrongBits() []int {
	return []int{math.MinInt, math.MinInt + 1, math.MinInt32, -65, -64, -63, -2, -1, 64, 65, 127, 128, 255, 256, math.MaxInt32, 1 << 32, 1<<32 + 1, math.MaxInt - 1, math.MaxInt}
}

// next is the number behind x in a row that looks as if it had no order.
func next(x uint64) uint64 {
	x ^= x << 13
	x ^= x >> 7
	return x ^ x<<17
}

// someWords are words with few bits, with many, and with any.
func someWords() []uint64 {
	list := []uint64{0, math.MaxUint64, 0x5555555555555555, 0xaaaaaaaaaaaaaaaa, 0x00000000ffffffff, 0xffffffff00000000, 0x7fff, 0x7f, 0x1f}
	for j := range 64 {
		list = append(list, 1<<j, ^(1 << j), 1<<j-1, ^(1<<j - 1))
	}
	x := uint64(88172645463325252)
	for range 50 {
		x = next(x)
		list = append(list, x, x&next(x), x|next(x))
	}
	return list
}

// digits are a word's bits, one behind the other, the lowest first, told by halving alone.
func digits(b uint64) [64]bool {
	var l [64]bool
	for j := range l {
		l[j] = b%2 == 1
		b /= 2
	}
	return l
}

// word is the word of which these are the bits.
func word(l [64]bool) uint64 {
	b := uint64(0)
	for j := range l {
		b *= 2
		if l[63-j] {
			b++
		}
	}
	return b
}

// P5.1: each bit of a word is set, cleared and told, and no other one is otherwise.
func TestSetClearHas(t *testing.T) {
	for _, b := range someWords() {
		d := digits(b)
		for j := range 64 {
			set, clear := d, d
			set[j], clear[j] = true, false
			if x := bits.Set(b, j); x != word(set) {
				t.Errorf("Set(%x, %d): %x", b, j, x)
			}
			if x := bits.Clear(b, j); x != word(clear) {
				t.Errorf("Clear(%x, %d): %x", b, j, x)
			}
			if x := bits.Has(b, j); x != d[j] {
				t.Errorf("Has(%x, %d): %t", b, j, x)
			}
		}
	}
}

// P5.1: of a bit that is none the word is as it was, and it is not set.
func TestNoBit(t *testing.T) {
	for _, b := range someWords() {
		for _, j := range wrongBits() {
			if x := bits.Set(b, j); x != b {
				t.Errorf("Set(%x, %d): %x", b, j, x)
			}
			if x := bits.Clear(b, j); x != b {
				t.Errorf("Clear(%x, %d): %x", b, j, x)
			}
			if bits.Has(b, j) {
				t.Errorf("Has(%x, %d): true", b, j)
			}
		}
	}
}

// numbers are all n that are held against a word's bits: within it, at its ends, and far off.
func numbers() []int {
	list := wrongBits()
	for n := range 64 {
		list = append(list, n)
	}
	return list
}

// P5.2: Lowest is the least bit below n that is not set; n above 64 counts as 64.
func TestLowest(t *testing.T) {
	for _, b := range someWords() {
		least := slices.Index(append(sliceOf(b), false), false)
		for _, n := range numbers() {
			want, there := 0, least < min(n, 64)
			if there {
				want = least
			}
			if j, ok := bits.Lowest(b, n); j != want || ok != there {
				t.Errorf("Lowest(%x, %d): %d, %t", b, n, j, ok)
			}
		}
	}
}

// sliceOf are a word's bits as a list.
func sliceOf(b uint64) []bool {
	l := digits(b)
	return l[:]
}

// rising are the bits of a word that are set.
func rising(b uint64) []int {
	var l []int
	for j, set := range digits(b) {
		if set {
			l = append(l, j)
		}
	}
	return l
}

// P5.2: Count is how many bits are set, and All tells each of them once, rising.
func TestCountAll(t *testing.T) {
	for _, b := range someWords() {
		want := rising(b)
		if n := bits.Count(b); n != len(want) {
			t.Errorf("Count(%x): %d", b, n)
		}
		if l := slices.Collect(bits.All(b)); !slices.Equal(l, want) {
			t.Errorf("All(%x): %v", b, l)
		}
	}
}

// P5.2: All may be left behind any bit, gone through again, and gone through within itself.
func TestAllAgain(t *testing.T) {
	for _, b := range someWords() {
		want := rising(b)
		all := bits.All(b)
		for stop := range want {
			var l []int
			for j := range all {
				l = append(l, j)
				if len(l) > stop {
					break
				}
			}
			if !slices.Equal(l, want[:stop+1]) {
				t.Errorf("All(%x), left behind %d: %v", b, stop+1, l)
			}
		}
		if l := slices.Collect(all); !slices.Equal(l, want) {
			t.Errorf("All(%x), again: %v", b, l)
		}
		pairs := 0
		for range all {
			for range all {
				pairs++
			}
		}
		if pairs != len(want)*len(want) {
			t.Errorf("All(%x) within itself: %d", b, pairs)
		}
	}
}

// P5.2: May says whether no bit from n on is set; n below 0 counts as 0.
func TestMay(t *testing.T) {
	for _, b := range someWords() {
		for _, n := range numbers() {
			want := true
			for _, j := range rising(b) {
				want = want && j < n
			}
			if ok := bits.May(b, n); ok != want {
				t.Errorf("May(%x, %d): %t", b, n, ok)
			}
		}
	}
}

// P5.1, P5.2: the chapter's first example.
func TestExampleWord(t *testing.T) {
	if b := bits.Set(4, 0); b != 5 {
		t.Errorf("Set(4, 0): %d", b)
	}
	if b := bits.Clear(5, 2); b != 1 {
		t.Errorf("Clear(5, 2): %d", b)
	}
	if j, ok := bits.Lowest(7, 4); j != 3 || !ok {
		t.Errorf("Lowest(7, 4): %d, %t", j, ok)
	}
	if j, ok := bits.Lowest(7, 3); j != 0 || ok {
		t.Errorf("Lowest(7, 3): %d, %t", j, ok)
	}
	if bits.May(8, 3) {
		t.Errorf("May(8, 3): true")
	}
}

// P5.3: the chapter's second example.
func TestExampleSet(t *testing.T) {
	f := bits.NewFree(128, 64, 192)
	if a, ok := f.Take(); a != 64 || !ok {
		t.Errorf("Take: %d, %t", a, ok)
	}
	if !f.Drop(192) {
		t.Errorf("Drop(192): false")
	}
	if a, ok := f.Take(); a != 128 || !ok {
		t.Errorf("Take: %d, %t", a, ok)
	}
	if a, ok := f.Take(); a != 0 || ok {
		t.Errorf("Take: %d, %t", a, ok)
	}
}

// lists are addresses in many orders, with and without 0, and what comes twice.
func lists() [][]api.Addr {
	top := api.Addr(math.MaxUint64)
	list := [][]api.Addr{
		nil, {}, {0}, {0, 0, 0}, {64}, {64, 64}, {64, 64, 64}, {0, 64}, {64, 0}, {1}, {0, 1}, {1, 0}, {top}, {top, 0, top},
		{1, 2, 3}, {3, 2, 1}, {128, 64, 192}, {192, 128, 64, 0, 64, 128, 192}, {top, 1, top - 1, 1 << 63, 1<<63 - 1, 1 << 63, 1, 0},
	}
	x := uint64(362436069362436069)
	for n := range 60 {
		var l []api.Addr
		for range n {
			x = next(x)
			l = append(l, api.Addr(x>>40%64*64))
		}
		list = append(list, l)
		l = nil
		for range n {
			x = next(x)
			l = append(l, api.Addr(x))
		}
		list = append(list, l)
	}
	return list
}

// once are the addresses of a list but 0, once each, rising.
func once(l []api.Addr) []api.Addr {
	var list []api.Addr
	for _, a := range l {
		at := 0
		for at < len(list) && list[at] < a {
			at++
		}
		if a != 0 && (at == len(list) || list[at] != a) {
			list = slices.Insert(list, at, a)
		}
	}
	return list
}

// holds says what is wrong with a set that should have these addresses, which rise.
func holds(t *testing.T, f *bits.Free, want []api.Addr) {
	t.Helper()
	if n := f.Len(); n != len(want) {
		t.Errorf("Len: %d, of %v", n, want)
	}
	if l := f.All(); !slices.Equal(l, want) {
		t.Errorf("All: %v, of %v", l, want)
	}
	for _, a := range want {
		if !f.Has(a) {
			t.Errorf("Has(%d): false, of %v", a, want)
		}
		for _, b := range []api.Addr{a - 1, a + 1, a ^ 1<<63} {
			if f.Has(b) != slices.Contains(want, b) {
				t.Errorf("Has(%d): %t, of %v", b, f.Has(b), want)
			}
		}
	}
	for _, a := range []api.Addr{0, 1, 64, 1 << 63, math.MaxUint64} {
		if f.Has(a) != slices.Contains(want, a) {
			t.Errorf("Has(%d): %t, of %v", a, f.Has(a), want)
		}
	}
}

// empties takes all out of a set, one by one, which tells these addresses in their order.
func empties(t *testing.T, f *bits.Free, want []api.Addr) {
	t.Helper()
	for k, w := range want {
		if a, ok := f.Take(); a != w || !ok {
			t.Errorf("Take %d: %d, %t, of %v", k, a, ok, want)
		}
		if f.Has(w) || f.Len() != len(want)-k-1 {
			t.Errorf("behind Take %d: Has %t, Len %d, of %v", k, f.Has(w), f.Len(), want)
		}
	}
	for range 3 {
		if a, ok := f.Take(); a != 0 || ok {
			t.Errorf("Take of none: %d, %t", a, ok)
		}
	}
	holds(t, f, nil)
}

// P5.3, P5.4, P5.5: NewFree has each address but 0, once; Take, again and again, tells them rising.
func TestNewFree(t *testing.T) {
	for _, l := range lists() {
		given := slices.Clone(l)
		f := bits.NewFree(l...)
		if f == nil {
			t.Fatalf("NewFree(%v): nil", l)
		}
		holds(t, f, once(l))
		empties(t, f, once(l))
		if !slices.Equal(l, given) {
			t.Errorf("NewFree(%v) changed what was handed in: %v", given, l)
		}
	}
}

// P5.3, P5.4, P5.5: so does a set into which they are put one by one, whether it was made by NewFree or is a zero one.
func TestPut(t *testing.T) {
	for _, l := range lists() {
		for _, f := range []*bits.Free{{}, new(bits.Free), bits.NewFree(), bits.NewFree(0)} {
			for k, a := range l {
				want := api.OK
				if a == 0 {
					want = api.ErrArg
				}
				if e := f.Put(a); e != want {
					t.Errorf("Put(%d): %d", a, e)
				}
				holds(t, f, once(l[:k+1]))
			}
			empties(t, f, once(l))
		}
	}
}

// P5.3: Drop takes out what is there, and that alone, and says no of what is not.
func TestDrop(t *testing.T) {
	for _, l := range lists() {
		left := once(l)
		f := bits.NewFree(l...)
		for _, a := range append(slices.Clone(l), l...) {
			i := slices.Index(left, a)
			if ok := f.Drop(a); ok != (i >= 0) {
				t.Errorf("Drop(%d): %t, of %v", a, ok, left)
			}
			if i >= 0 {
				left = slices.Delete(left, i, i+1)
			}
			holds(t, f, left)
			if f.Drop(a) || f.Drop(0) || f.Len() != len(left) {
				t.Errorf("Drop(%d) again, of %v", a, left)
			}
		}
		empties(t, f, nil)
	}
}

// P5.3, P5.5: what is left when any one of many is dropped is taken in its order.
func TestDropEach(t *testing.T) {
	x := uint64(521288629521288629)
	for range 40 {
		var l []api.Addr
		for range 30 {
			x = next(x)
			l = append(l, api.Addr(x>>32))
		}
		all := once(l)
		for i, a := range all {
			f := new(bits.Free)
			for _, b := range l {
				f.Put(b)
			}
			if !f.Drop(a) {
				t.Errorf("Drop(%d): false", a)
			}
			empties(t, f, slices.Delete(slices.Clone(all), i, i+1))
		}
	}
}

// P5.3: an address that was taken, or dropped, may be put again.
func TestPutAgain(t *testing.T) {
	f := bits.NewFree(64, 128)
	f.Take()
	f.Drop(128)
	for _, a := range []api.Addr{128, 64, 128, 64} {
		if e := f.Put(a); e != api.OK {
			t.Errorf("Put(%d): %d", a, e)
		}
	}
	holds(t, f, []api.Addr{64, 128})
	empties(t, f, []api.Addr{64, 128})
}

// P5.3, P5.4, P5.5: whatever is done in whatever order, a set is as a plain list that is kept rising, and so is its copy.
func TestAnyOrder(t *testing.T) {
	x := uint64(123456789123456789)
	f, want := new(bits.Free), []api.Addr(nil)
	for k := range 20000 {
		x = next(x)
		a := api.Addr(x >> 20 % 97 * 8)
		i, there := slices.BinarySearch(want, a)
		switch x % 7 {
		case 0, 1, 2, 3:
			code := api.OK
			if a == 0 {
				code = api.ErrArg
			} else if !there {
				want = slices.Insert(want, i, a)
			}
			if e := f.Put(a); e != code {
				t.Fatalf("act %d: Put(%d): %d", k, a, e)
			}
		case 4:
			least, some := api.Addr(0), len(want) > 0
			if some {
				least, want = want[0], want[1:]
			}
			if b, ok := f.Take(); b != least || ok != some {
				t.Fatalf("act %d: Take: %d, %t, of %v", k, b, ok, want)
			}
		case 5:
			if there {
				want = slices.Delete(want, i, i+1)
			}
			if ok := f.Drop(a); ok != there {
				t.Fatalf("act %d: Drop(%d): %t, of %v", k, a, ok, want)
			}
		case 6:
			if f.Has(a) != there {
				t.Fatalf("act %d: Has(%d): %t, of %v", k, a, !there, want)
			}
		}
		holds(t, f, want)
		if k%50 == 0 {
			empties(t, f.Copy(), want)
		}
	}
	empties(t, f, want)
}

// P5.4: a copy goes on apart, and what All answered is nobody else's.
func TestCopy(t *testing.T) {
	for _, l := range lists() {
		want := once(l)
		f := bits.NewFree(l...)
		c, d := f.Copy(), f.Copy()
		empties(t, c, want)
		holds(t, f, want)
		f.Put(77)
		f.Put(99)
		holds(t, d, want)
		d.Put(55)
		holds(t, f, once(append([]api.Addr{77, 99}, want...)))
		holds(t, d, once(append([]api.Addr{55}, want...)))
		holds(t, c, nil)

		list := d.All()
		for k := range list {
			list[k] = 3
		}
		holds(t, d, once(append([]api.Addr{55}, want...)))
		_ = append(list[:0], 5, 5, 5)
		empties(t, d, once(append([]api.Addr{55}, want...)))
	}
}

// P5.4: a list that All answered stays as it was, whatever is done with the set, and so does what was handed to NewFree.
func TestAllStays(t *testing.T) {
	l := []api.Addr{320, 64, 0, 256, 64, 128}
	f := bits.NewFree(l...)
	list := f.All()
	f.Take()
	f.Put(8)
	f.Drop(256)
	f.Put(16)
	if !slices.Equal(list, []api.Addr{64, 128, 256, 320}) {
		t.Errorf("All, later: %v", list)
	}
	if !slices.Equal(l, []api.Addr{320, 64, 0, 256, 64, 128}) {
		t.Errorf("what was handed in: %v", l)
	}
	for k := range l {
		l[k] = 5
	}
	holds(t, f, []api.Addr{8, 16, 128, 320})
}

// P5.3: an address that is refused changes nothing.
func TestPutNought(t *testing.T) {
	for _, l := range lists() {
		f := bits.NewFree(l...)
		if e := f.Put(0); e != api.ErrArg {
			t.Errorf("Put(0): %d", e)
		}
		holds(t, f, once(l))
		empties(t, f, once(l))
	}
}

// P5.3, P5.4: of no set Put is refused, of whatever address, and all else answers nothing.
func TestNoSet(t *testing.T) {
	var f *bits.Free
	for _, a := range []api.Addr{0, 1, 64, math.MaxUint64} {
		if e := f.Put(a); e != api.ErrNil {
			t.Errorf("Put(%d): %d", a, e)
		}
		if f.Drop(a) || f.Has(a) {
			t.Errorf("Drop(%d), Has: true", a)
		}
	}
	if a, ok := f.Take(); a != 0 || ok {
		t.Errorf("Take: %d, %t", a, ok)
	}
	if f.Len() != 0 || len(f.All()) != 0 || f.Copy() != nil {
		t.Errorf("Len, All, Copy: %d, %v, %v", f.Len(), f.All(), f.Copy())
	}
}

// P5.3, P5.4: a zero set has none, and its copy is a set, too.
func TestZeroSet(t *testing.T) {
	var f bits.Free
	holds(t, &f, nil)
	if f.Drop(0) || f.Drop(64) {
		t.Errorf("Drop: true")
	}
	if a, ok := f.Take(); a != 0 || ok {
		t.Errorf("Take: %d, %t", a, ok)
	}
	if e := f.Put(0); e != api.ErrArg {
		t.Errorf("Put(0): %d", e)
	}
	c := f.Copy()
	if c == nil {
		t.Fatalf("Copy: nil")
	}
	if e := c.Put(64); e != api.OK {
		t.Errorf("Put(64): %d", e)
	}
	holds(t, &f, nil)
	empties(t, c, []api.Addr{64})
}
