package word_test

import (
	"bytes"
	"math"
	"slices"
	"strings"
	"testing"

	"levee/api"
	"levee/word"
)

// samples are words whose bytes differ, and those at the ends.
func samples() []uint64 {
	l := []uint64{0, 1, 258, 1<<63 - 1, 1 << 63, 1<<63 + 1, math.MaxUint64 - 1, math.MaxUint64, 0x0102030405060708, 0xfedcba9876543210, api.Magic}
	for i := range 64 {
		l = append(l, 1<<i)
	}
	n := uint64(1)
	for range 200 {
		n = n*6364136223846793005 + 1442695040888963407
		l = append(l, n)
	}
	return l
}

// row is bytes that are all unlike, from a first one on.
func row(n, first int) []byte {
	b := make([]byte, n)
	for i := range b {
		b[i] = byte(first + i)
	}
	return b
}

// texts are of each length up to a value's and some more, with bytes that are 0 or above 127 at their ends, too.
func texts() []string {
	var l []string
	for n := range api.MaxValue + 10 {
		l = append(l, string(row(n, 1)), strings.Repeat("\x00", n), strings.Repeat("\xff", n))
		if n > 0 {
			l = append(l, string(row(n-1, 200))+"\x00")
		}
	}
	return l
}

// P1.1: Put tells the lowest byte first.
func TestPut(t *testing.T) {
	for _, c := range []struct {
		n    uint64
		want [8]byte
	}{
		{0, [8]byte{}},
		{258, [8]byte{2, 1}},
		{0x0102030405060708, [8]byte{8, 7, 6, 5, 4, 3, 2, 1}},
		{1 << 63, [8]byte{7: 128}},
		{math.MaxUint64, [8]byte{255, 255, 255, 255, 255, 255, 255, 255}},
	} {
		if b := word.Put(c.n); b != c.want {
			t.Errorf("Put(%d): %v, not %v", c.n, b, c.want)
		}
	}
}

// P1.1: Get reads at any place, a multiple of 8 or not, up to the last one at which a word has room.
func TestGet(t *testing.T) {
	b := row(25, 1)
	for at := 0; at <= 17; at++ {
		var want uint64
		for i := 7; i >= 0; i-- {
			want = want*256 + uint64(at+1+i)
		}
		if n, e := word.Get(b, at); e != api.OK || n != want {
			t.Errorf("Get at %d: %#x, %v, not %#x", at, n, e, want)
		}
	}
	if n, e := word.Get([]byte{0, 1, 0, 0, 0, 0, 0, 0, 0}, 1); e != api.OK || n != 1 {
		t.Error(n, e)
	}
	if !bytes.Equal(b, row(25, 1)) {
		t.Error("Get changed the bytes", b)
	}
}

// wrongPlaces are those at which no word has room in n bytes.
func wrongPlaces(n int) []int {
	return []int{math.MinInt, -8, -1, max(0, n-7), n - 1 + 8, n, n + 1, math.MaxInt - 8, math.MaxInt - 7, math.MaxInt}
}

// P1.1: where the place, and seven more, are not all there, Get answers ErrRange, and nothing beside it.
func TestGetRange(t *testing.T) {
	if n, e := word.Get([]byte{0, 1, 0, 0, 0, 0, 0, 0, 0}, 2); e != api.ErrRange || n != 0 {
		t.Error(n, e)
	}
	for _, length := range []int{0, 1, 7, 8, 9, 20} {
		for _, at := range wrongPlaces(length) {
			if n, e := word.Get(row(length, 1), at); e != api.ErrRange || n != 0 {
				t.Errorf("Get of %d bytes at %d: %d, %v", length, at, n, e)
			}
		}
	}
	if n, e := word.Get(nil, 0); e != api.ErrRange || n != 0 {
		t.Error(n, e)
	}
	// What is behind the bytes in the same memory is not theirs.
	if n, e := word.Get(row(16, 1)[:10], 3); e != api.ErrRange || n != 0 {
		t.Error(n, e)
	}
}

// P1.1: Set changes the eight bytes from the place on, and none beside them.
func TestSet(t *testing.T) {
	for at := 0; at <= 12; at++ {
		for _, n := range samples() {
			b := row(20, 50)
			if e := word.Set(b, at, n); e != api.OK {
				t.Fatal(at, e)
			}
			want := row(20, 50)
			w := word.Put(n)
			copy(want[at:], w[:])
			if !bytes.Equal(b, want) {
				t.Fatalf("Set of %#x at %d: %v, not %v", n, at, b, want)
			}
			if x, e := word.Get(b, at); e != api.OK || x != n {
				t.Fatal(at, n, x, e)
			}
		}
	}
	b := make([]byte, 10)
	if e := word.Set(b, 1, 0x1122334455667788); e != api.OK || !bytes.Equal(b, []byte{0, 0x88, 0x77, 0x66, 0x55, 0x44, 0x33, 0x22, 0x11, 0}) {
		t.Error(b, e)
	}
}

// P1.1: a Set that is refused changes nothing, also not what is behind the bytes in the same memory.
func TestSetRange(t *testing.T) {
	for _, length := range []int{0, 1, 7, 8, 9, 20} {
		for _, at := range wrongPlaces(length) {
			whole := row(length+20, 1)
			if e := word.Set(whole[:length], at, math.MaxUint64); e != api.ErrRange {
				t.Errorf("Set of %d bytes at %d: %v", length, at, e)
			}
			if !bytes.Equal(whole, row(length+20, 1)) {
				t.Errorf("Set of %d bytes at %d changed them: %v", length, at, whole)
			}
		}
	}
	if e := word.Set(nil, 0, 1); e != api.ErrRange {
		t.Error(e)
	}
}

// P1.2: Words goes eight by eight, and refuses what is no multiple of 8.
func TestWords(t *testing.T) {
	b := append(row(8, 1), 0, 0, 0, 0, 0, 0, 0, 128)
	l, e := word.Words(b)
	if e != api.OK || !slices.Equal(l, []uint64{0x0807060504030201, 1 << 63}) {
		t.Error(l, e)
	}
	l[0] = 0
	if b[0] != 1 {
		t.Error("what Words answers shares memory with the bytes")
	}
	for n := range 40 {
		l, e := word.Words(row(n, 1))
		if n%8 == 0 && (e != api.OK || len(l) != n/8) {
			t.Error(n, l, e)
		}
		if n%8 != 0 && (e != api.ErrArg || l != nil) {
			t.Error(n, l, e)
		}
	}
	if l, e := word.Words(nil); e != api.OK || len(l) != 0 {
		t.Error(l, e)
	}
}

// P1.2: Bytes tells one word's bytes behind the other's.
func TestBytes(t *testing.T) {
	if b := word.Bytes(); len(b) != 0 {
		t.Error(b)
	}
	if b := word.Bytes(258, 1<<63, 0x0102030405060708); !bytes.Equal(b, []byte{2, 1, 0, 0, 0, 0, 0, 0, 0, 0, 0, 0, 0, 0, 0, 128, 8, 7, 6, 5, 4, 3, 2, 1}) {
		t.Error(b)
	}
	l := []uint64{1, 2}
	if word.Bytes(l...)[0] = 9; l[0] != 1 {
		t.Error("what Bytes answers shares memory with the words", l)
	}
}

// P1.3: Hex has 16 digits, also of small words, the highest one first.
func TestHex(t *testing.T) {
	for n, want := range map[uint64]string{
		0:                  "0000000000000000",
		258:                "0000000000000102",
		0xfedcba9876543210: "fedcba9876543210",
		0x0123456789abcdef: "0123456789abcdef",
		1 << 63:            "8000000000000000",
		math.MaxUint64:     "ffffffffffffffff",
	} {
		if s := word.Hex(n); s != want {
			t.Errorf("Hex(%d): %q, not %q", n, s, want)
		}
		if x, e := word.OfHex(want); e != api.OK || x != n {
			t.Errorf("OfHex(%q): %d, %v", want, x, e)
		}
	}
}

// P1.3: of 16 bytes each has to be one of the 16 digits, whatever place it has.
func TestOfHexDigits(t *testing.T) {
	for c := range 256 {
		for i := range 16 {
			b := []byte("0000000000000000")
			b[i] = byte(c)
			n, e := word.OfHex(string(b))
			if d := strings.IndexByte("0123456789abcdef", byte(c)); d >= 0 {
				if e != api.OK || n != uint64(d)<<(60-4*i) {
					t.Errorf("OfHex(%q): %d, %v", b, n, e)
				}
			} else if e != api.ErrBytes || n != 0 {
				t.Errorf("OfHex(%q): %d, %v", b, n, e)
			}
		}
	}
}

// P1.3: nothing but 16 digits is a word's.
func TestOfHexLength(t *testing.T) {
	for n := range 40 {
		x, e := word.OfHex(strings.Repeat("1", n))
		if n != 16 && (e != api.ErrBytes || x != 0) || n == 16 && (e != api.OK || x != 0x1111111111111111) {
			t.Error(n, x, e)
		}
	}
	for _, s := range []string{"0x00000000000001", "0X00000000000001", " 000000000000001", "000000000000001 ", "000000000000001\n", "-000000000000001", "+000000000000001", "00000000_0000001", "000000000000000A", "00000000000000é"} {
		if x, e := word.OfHex(s); e != api.ErrBytes || x != 0 {
			t.Errorf("OfHex(%q): %d, %v", s, x, e)
		}
	}
}

// P1.4: Pack tells the length, then the bytes, eight to a word.
func TestPack(t *testing.T) {
	for s, want := range map[string][]uint64{
		"":                 {0},
		"ab":               {2, 25185},
		"abcdefgh":         {8, 7523094288207667809},
		"abcdefghi":        {9, 7523094288207667809, 105},
		"\x00":             {1, 0},
		"\xff\x00":         {2, 255},
		"é":                {2, 0xa9c3},
		"1234567890abcdef": {16, 0x3837363534333231, 0x6665646362613039},
	} {
		if l := word.Pack(s); !slices.Equal(l, want) {
			t.Errorf("Pack(%q): %v, not %v", s, l, want)
		}
		if x, e := word.Unpack(want); e != api.OK || x != s {
			t.Errorf("Unpack(%v): %q, %v", want, x, e)
		}
	}
	for _, s := range texts() {
		if l := word.Pack(s); len(l) != 1+(len(s)+7)/8 || l[0] != uint64(len(s)) {
			t.Errorf("Pack(%q): %v", s, l)
		}
	}
}

// P1.4: Unpack refuses words too few, too many, bytes behind the text, and lengths that no list has.
func TestUnpackWrong(t *testing.T) {
	for _, l := range [][]uint64{
		nil, {},
		{1}, {8}, {9, 1}, {16, 1},
		{0, 0}, {1, 1, 0}, {8, 1, 0}, {9, 1, 1, 0},
		{1, 256}, {1, 1 << 63}, {7, 1 << 56}, {9, 0, 256},
		{1 << 63}, {1 << 63, 0}, {1<<63 + 1, 1}, {1 << 61}, {1<<61 + 1, 1}, {1 << 32}, {1<<32 + 1, 1},
		{math.MaxUint64}, {math.MaxUint64, 0}, {math.MaxUint64 - 7}, {math.MaxUint64 - 6, 0}, {math.MaxUint64 - 6},
	} {
		if s, e := word.Unpack(l); e != api.ErrBytes || s != "" {
			t.Errorf("Unpack(%v): %q, %v", l, s, e)
		}
	}
}

// P1.4: words that are handed in stay as they were.
func TestUnpackLeaves(t *testing.T) {
	l := []uint64{9, 1, 2}
	s, e := word.Unpack(l)
	l[1] = 5
	if e != api.OK || s != "\x01\x00\x00\x00\x00\x00\x00\x00\x02" || l[0] != 9 || l[2] != 2 {
		t.Error(s, e, l)
	}
}

// P1.5: Words of Bytes are the words, Bytes of Words the bytes.
func TestWordsOfBytes(t *testing.T) {
	all := samples()
	for n := range len(all) {
		l, e := word.Words(word.Bytes(all[:n]...))
		if e != api.OK || !slices.Equal(l, all[:n]) {
			t.Fatal(n, l, e)
		}
	}
	for n := 0; n <= 256; n += 8 {
		l, e := word.Words(row(n, 7))
		if b := word.Bytes(l...); e != api.OK || !bytes.Equal(b, row(n, 7)) {
			t.Fatal(n, b, e)
		}
	}
}

// P1.5: OfHex of Hex is the word, and Hex stand to one another as the words do.
func TestHexOrder(t *testing.T) {
	l := samples()
	for _, a := range l {
		if x, e := word.OfHex(word.Hex(a)); e != api.OK || x != a {
			t.Fatal(a, x, e)
		}
		for _, b := range l {
			if (a < b) != (word.Hex(a) < word.Hex(b)) {
				t.Fatal(a, b, word.Hex(a), word.Hex(b))
			}
		}
	}
}

// P1.5: Unpack of Pack is the text.
func TestUnpackOfPack(t *testing.T) {
	for _, s := range texts() {
		if x, e := word.Unpack(word.Pack(s)); e != api.OK || x != s {
			t.Fatalf("%q: %q, %v", s, x, e)
		}
	}
}

// P1.5: no other words are a text: whatever Unpack takes is what Pack tells.
func TestUnpackOthers(t *testing.T) {
	taken := func(l []uint64) {
		t.Helper()
		if s, e := word.Unpack(l); e == api.OK && !slices.Equal(word.Pack(s), l) {
			t.Fatalf("Unpack(%v): %q, which is packed as %v", l, s, word.Pack(s))
		}
	}
	for n := range 26 {
		packed := word.Pack(string(row(n, 1)))
		for i := range packed {
			for j := range 64 {
				l := slices.Clone(packed)
				l[i] ^= 1 << j
				taken(l)
			}
		}
		taken(packed[:len(packed)-1])
		taken(append(slices.Clone(packed), 0))
	}
}
