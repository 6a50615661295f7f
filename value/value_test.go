package value_test

import (
	"math"
	"slices"
	"strings"
	"testing"

	"levee/api"
	"levee/value"
)

// longest is what a class' values may have, by the chapter's numbers.
var longest = [3]int{-1, 56, 120}

// classOf is the class of a value of so many bytes, by the chapter's numbers.
func classOf(n int) int {
	if n <= longest[1] {
		return 1
	}
	return 2
}

// row is a value of bytes that are all unlike, and none of them 0.
func row(n int) string {
	b := make([]byte, n)
	for i := range b {
		b[i] = byte(255 - i)
	}
	return string(b)
}

// texts are values of a length, also such as have bytes that are 0 at their ends.
func texts(n int) []string {
	return []string{row(n), strings.Repeat("\x00", n), strings.Repeat("\xff", n)}
}

// packed is a value as words, byte by byte: its length, then eight to a word.
func packed(s string) []uint64 {
	l := []uint64{uint64(len(s))}
	for i := range len(s) {
		if i%8 == 0 {
			l = append(l, 0)
		}
		l[len(l)-1] |= uint64(s[i]) << (8 * (i % 8))
	}
	return l
}

// blockAt is where a block begins, told by the arena's words alone.
func blockAt(slab, class, j int) api.Addr {
	return api.Addr(1024*slab + 64 + 64*class*j)
}

// blocks are how many blocks of a class a slab has.
var blocks = [4]int{0, 15, 7, 5}

// begins says whether a block of a class begins at an address, of an arena of MaxSlabs.
func begins(a api.Addr, class int) bool {
	for slab := 1; slab <= api.MaxSlabs; slab++ {
		for j := range blocks[class] {
			if blockAt(slab, class, j) == a {
				return true
			}
		}
	}
	return false
}

// The chapter's examples.
func TestExamples(t *testing.T) {
	for n, want := range map[int]int{56: 1, 57: 2} {
		if class, e := value.Class(row(n)); class != want || e != api.OK {
			t.Errorf("Class of %d bytes: %d, %d", n, class, e)
		}
	}
	if class, e := value.Class(row(121)); class != 0 || e != api.ErrLong {
		t.Errorf("Class of 121 bytes: %d, %d", class, e)
	}
	l, e := value.Puts(1088, "ab")
	if e != api.OK || !slices.Equal(l, []api.Put{{At: 1088, Word: 2}, {At: 1096, Word: 25185}}) {
		t.Error(l, e)
	}
	for _, x := range []struct {
		class int
		words []uint64
		code  api.Errno
	}{
		{1, append([]uint64{57}, make([]uint64, 15)...), api.ErrBytes},
		{2, append([]uint64{56}, make([]uint64, 15)...), api.ErrBytes},
		{1, []uint64{1, 256}, api.ErrBytes},
		{1, []uint64{0, 7}, api.OK},
	} {
		if s, e := value.Parse(x.class, x.words); s != "" || e != x.code {
			t.Errorf("Parse of %d, %v: %q, %d, not %d", x.class, x.words, s, e, x.code)
		}
	}
}

// P12.1: Class is 1 up to 56 bytes, 2 up to 120, whatever bytes they are; beyond that the error.
func TestClass(t *testing.T) {
	for n := range 300 {
		for _, s := range texts(n) {
			class, e := value.Class(s)
			if n <= 120 && (class != classOf(n) || e != api.OK) || n > 120 && (class != 0 || e != api.ErrLong) {
				t.Errorf("%d bytes: %d, %d", n, class, e)
			}
		}
	}
	// Bytes are counted, not letters.
	for s, want := range map[string]int{strings.Repeat("\u00e9", 28): 1, strings.Repeat("\u00e9", 29): 2, strings.Repeat("\u00e9", 60): 2} {
		if class, e := value.Class(s); class != want || e != api.OK {
			t.Errorf("%d bytes: %d, %d", len(s), class, e)
		}
	}
	for _, s := range []string{strings.Repeat("\u00e9", 61), strings.Repeat("x", 256), strings.Repeat("x", 1<<16+5), strings.Repeat("x", 1<<20)} {
		if class, e := value.Class(s); class != 0 || e != api.ErrLong {
			t.Errorf("%d bytes: %d, %d", len(s), class, e)
		}
	}
}

// P12.1: Words are one more than the eights that are begun; of no value's length 0.
func TestWords(t *testing.T) {
	for n := -300; n <= 300; n++ {
		want := 0
		if n >= 0 && n <= 120 {
			want = len(packed(row(n)))
		}
		if got := value.Words(n); got != want {
			t.Errorf("%d: %d, not %d", n, got, want)
		}
	}
	for n, want := range map[int]int{0: 1, 1: 2, 8: 2, 9: 3, 56: 8, 57: 9, 113: 16, 120: 16} {
		if got := value.Words(n); got != want {
			t.Errorf("%d: %d, not %d", n, got, want)
		}
	}
	for _, n := range []int{math.MinInt, math.MinInt + 1, math.MinInt + 120, -1 << 32, 1 << 32, 1<<32 + 5, math.MaxInt - 7, math.MaxInt - 6, math.MaxInt} {
		if got := value.Words(n); got != 0 {
			t.Errorf("%d: %d", n, got)
		}
	}
}

// P12.1: Puts are the packed words, by rising addresses, each once, in the block.
func TestPuts(t *testing.T) {
	for n := range 121 {
		for _, s := range texts(n) {
			for _, slab := range []int{1, 2, 37, api.MaxSlabs} {
				for j := range blocks[classOf(n)] {
					holdPuts(t, blockAt(slab, classOf(n), j), s)
				}
			}
		}
	}
}

func holdPuts(t *testing.T, base api.Addr, s string) {
	t.Helper()
	l, e := value.Puts(base, s)
	words := packed(s)
	if e != api.OK || len(l) != len(words) || len(l) != value.Words(len(s)) || len(l) > 8*classOf(len(s)) {
		t.Fatalf("%q at %d: %v, %d", s, base, l, e)
	}
	for k, p := range l {
		if p.At != base+api.Addr(8*k) || p.Word != words[k] {
			t.Fatalf("%q at %d: %v", s, base, l)
		}
	}
}

// The Errors: Puts knows the bases at which a block of the value's class begins, and no other ones.
func TestPutsBases(t *testing.T) {
	for class, s := range map[int]string{1: row(56), 2: row(57)} {
		known := map[api.Addr]bool{}
		for slab := 1; slab <= api.MaxSlabs; slab++ {
			for j := range blocks[class] {
				known[blockAt(slab, class, j)] = true
			}
		}
		for a := api.Addr(0); a < 70000; a++ {
			l, e := value.Puts(a, s)
			if known[a] && (e != api.OK || len(l) != len(packed(s))) || !known[a] && (e != api.ErrArg || l != nil) {
				t.Fatalf("class %d at %d: %v, %d", class, a, l, e)
			}
		}
		for _, a := range []api.Addr{1 << 20, 1<<32 + 1088, 1 << 40, 1 << 63, 1<<63 + 1088, math.MaxUint64 - 63, math.MaxUint64} {
			if l, e := value.Puts(a, s); e != api.ErrArg || l != nil {
				t.Errorf("class %d at %d: %v, %d", class, a, l, e)
			}
		}
	}
	// The base is asked for the value's own class: 1216 has blocks of 1 and 2, 1152 of 1, 1280 of 1 and 3.
	for a, want := range map[api.Addr][3]api.Errno{1216: {}, 1152: {2: api.ErrArg}, 1280: {2: api.ErrArg}} {
		for class := 1; class <= 2; class++ {
			if _, e := value.Puts(a, row(longest[class])); e != want[class] || begins(a, class) != (e == api.OK) {
				t.Errorf("class %d at %d: %d", class, a, e)
			}
		}
	}
}

// The Errors: of a value that is too long, Puts answers that first, wherever the base is.
func TestPutsLong(t *testing.T) {
	for _, n := range []int{121, 122, 128, 1000, 1 << 16} {
		for _, a := range []api.Addr{0, 1, 1024, 1088, 1216, 66560, math.MaxUint64} {
			if l, e := value.Puts(a, row(n)); e != api.ErrLong || l != nil {
				t.Errorf("%d bytes at %d: %v, %d", n, a, l, e)
			}
		}
	}
}

// P12.1: what Puts answers is new each time.
func TestPutsApart(t *testing.T) {
	l, _ := value.Puts(1088, "abc")
	o, _ := value.Puts(1088, "abc")
	l[0] = api.Put{}
	if o[0] != (api.Put{At: 1088, Word: 3}) {
		t.Error(o)
	}
}

// P12.2: Parse tells the value, and looks at no words behind it, nor changes any.
func TestParse(t *testing.T) {
	for n := range 121 {
		for _, s := range texts(n) {
			for _, behind := range [][]uint64{nil, {0}, {1}, {math.MaxUint64, 5}, make([]uint64, 40), slices.Repeat([]uint64{math.MaxUint64}, 40)} {
				l := append(packed(s), behind...)
				was := slices.Clone(l)
				got, e := value.Parse(classOf(n), l)
				if got != s || e != api.OK || !slices.Equal(l, was) {
					t.Fatalf("Parse of %v: %q, %d", was, got, e)
				}
				clear(l)
				if got != s {
					t.Fatal("what Parse answers shares memory with the words")
				}
			}
		}
	}
}

// refused holds a Parse that is refused.
func refused(t *testing.T, class int, l []uint64, code api.Errno) {
	t.Helper()
	was := slices.Clone(l)
	if s, e := value.Parse(class, l); s != "" || e != code {
		t.Errorf("Parse of %d, %v: %q, %d, not %d", class, l, s, e, code)
	}
	if !slices.Equal(l, was) {
		t.Errorf("Parse changed %v to %v", was, l)
	}
}

// The Errors: ErrArg of no value's class, and of no words, ahead of all else.
func TestParseClasses(t *testing.T) {
	for _, class := range []int{math.MinInt, -2, -1, 0, 3, 4, 64, 1 << 32, 1<<32 + 1, math.MaxInt} {
		for _, l := range [][]uint64{nil, {}, {0}, {1, 'a'}, {57}, {121}, {1, 256}, {math.MaxUint64}, packed(row(56)), packed(row(57)), packed(row(120))} {
			refused(t, class, l, api.ErrArg)
		}
	}
	for class := 1; class <= 2; class++ {
		refused(t, class, nil, api.ErrArg)
		refused(t, class, []uint64{}, api.ErrArg)
	}
}

// The Errors: ErrBytes of a length that no value of the class has, also where there are fewer words.
func TestParseLengths(t *testing.T) {
	for n := range uint64(300) {
		for class := 1; class <= 2; class++ {
			if n <= 120 && classOf(int(n)) == class {
				continue
			}
			refused(t, class, []uint64{n}, api.ErrBytes)
			refused(t, class, append([]uint64{n}, make([]uint64, 50)...), api.ErrBytes)
		}
	}
	for _, n := range []uint64{1 << 31, 1 << 32, 1<<32 + 1, 1<<32 + 57, 1 << 63, 1<<63 + 1, 1<<63 + 57, math.MaxUint64 - 7, math.MaxUint64} {
		for class := 1; class <= 2; class++ {
			refused(t, class, []uint64{n}, api.ErrBytes)
			refused(t, class, append([]uint64{n}, make([]uint64, 50)...), api.ErrBytes)
		}
	}
}

// The Errors: ErrArg of fewer words than a value of that length has, whatever they are.
func TestParseFewWords(t *testing.T) {
	for n := range 121 {
		for _, s := range texts(n) {
			for k := 1; k < len(packed(s)); k++ {
				refused(t, classOf(n), packed(s)[:k], api.ErrArg)
				l := packed(s)[:k:k]
				for i := 1; i < k; i++ {
					l[i] = math.MaxUint64
				}
				refused(t, classOf(n), l, api.ErrArg)
			}
		}
	}
}

// tail is the first bit of a value's last word that is none of its own; 64 if all are.
func tail(n int) int {
	if n%8 == 0 {
		return 64
	}
	return n % 8 * 8
}

// The Errors: ErrBytes of any bit behind the value in its last word.
func TestParseTails(t *testing.T) {
	for n := range 121 {
		last := len(packed(row(n))) - 1
		for bit := tail(n); bit < 64; bit++ {
			for _, s := range texts(n) {
				l := append(packed(s), 0, math.MaxUint64)
				l[last] |= 1 << bit
				refused(t, classOf(n), l, api.ErrBytes)
				refused(t, classOf(n), l[:last+1], api.ErrBytes)
			}
		}
	}
}

// P12.2: of whatever words, with one bit turned, Parse takes just those that are a value's.
func TestParseBits(t *testing.T) {
	for _, n := range []int{0, 1, 7, 8, 9, 50, 55, 56, 57, 58, 64, 119, 120} {
		words := packed(row(n))
		for i := range words {
			for bit := range 64 {
				l := append(slices.Clone(words), make([]uint64, 16)...)
				l[i] ^= 1 << bit
				s, e := value.Parse(classOf(n), l)
				if e == api.OK && !slices.Equal(packed(s), l[:len(packed(s))]) || e == api.OK && classOf(len(s)) != classOf(n) {
					t.Fatalf("Parse of %v: %q", l, s)
				}
				if e != api.OK && (s != "" || e != api.ErrBytes) {
					t.Fatalf("Parse of %v: %q, %d", l, s, e)
				}
				if own := i > 0 && (i < len(words)-1 || bit < tail(n)); own && e != api.OK {
					t.Fatalf("Parse of %v: %d", l, e)
				}
			}
		}
	}
}
