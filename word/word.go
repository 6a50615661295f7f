// Package word is layer 1: see shared/doc/01-word.md.
package word

import (
	"strings"

	"levee/api"
)

// size is how many bytes a word has.
const size = 8

const digits = "0123456789abcdef"

// Put is a word's bytes, the lowest one first.
func Put(n uint64) [8]byte {
	var b [size]byte
	for i := range b {
		b[i] = byte(n >> (8 * i))
	}
	return b
}

// Get is the word whose bytes stand from a place on.
func Get(b []byte, at int) (uint64, api.Errno) {
	p, e := piece(b, at)
	return join(p), e
}

// Set lets the bytes from a place on be a word's.
func Set(b []byte, at int, n uint64) api.Errno {
	p, e := piece(b, at)
	if e != api.OK {
		return e
	}
	w := Put(n)
	copy(p, w[:])
	return api.OK
}

// Words are the words of bytes.
func Words(b []byte) ([]uint64, api.Errno) {
	if len(b)%size != 0 {
		return nil, api.ErrArg
	}
	return cut(b), api.OK
}

// Bytes are the bytes of words.
func Bytes(l ...uint64) []byte {
	b := make([]byte, 0, len(l)*size)
	for _, n := range l {
		w := Put(n)
		b = append(b, w[:]...)
	}
	return b
}

// Hex is a word's digits.
func Hex(n uint64) string {
	var b [2 * size]byte
	for i := range b {
		b[len(b)-1-i] = digits[n>>(4*i)&15]
	}
	return string(b[:])
}

// OfHex is the word of digits.
func OfHex(s string) (uint64, api.Errno) {
	if len(s) != 2*size {
		return 0, api.ErrBytes
	}
	var n uint64
	for i := range len(s) {
		d := strings.IndexByte(digits, s[i])
		if d < 0 {
			return 0, api.ErrBytes
		}
		n = n<<4 | uint64(d)
	}
	return n, api.OK
}

// Pack is a text as words.
func Pack(s string) []uint64 {
	return append([]uint64{uint64(len(s))}, cut(s)...)
}

// Unpack is the text of words.
func Unpack(l []uint64) (string, api.Errno) {
	if len(l) == 0 {
		return "", api.ErrBytes
	}
	n, room := l[0], uint64(len(l)-1)*size
	// The length is held against the room, and not rounded up: the greatest lengths would wrap round.
	if n > room || room-n >= size {
		return "", api.ErrBytes
	}
	b := Bytes(l[1:]...)
	if join(b[n:]) != 0 {
		return "", api.ErrBytes
	}
	return string(b[:n:n]), api.OK
}

// piece is a word's bytes in b, bounded, so that no more than they can be reached.
func piece(b []byte, at int) ([]byte, api.Errno) {
	if at < 0 || at > len(b)-size {
		return nil, api.ErrRange
	}
	return b[at : at+size : at+size], api.OK
}

// cut is the words of a text's, or a list's bytes.
func cut[T string | []byte](b T) []uint64 {
	l := make([]uint64, 0, (len(b)+size-1)/size)
	for at := 0; at < len(b); at += size {
		l = append(l, join(b[at:min(at+size, len(b))]))
	}
	return l
}

// join is the word of at most eight bytes; those that it lacks count as 0.
func join[T string | []byte](b T) uint64 {
	var n uint64
	for i := range len(b) {
		n |= uint64(b[i]) << (8 * i)
	}
	return n
}
