// Package octet is layer 1: it encodes numbers and strings as bytes, and decodes them (shared/doc/01-octet.md).
package octet

import "lockkeeper/api"

// Put returns b followed by the lowest width bytes of n, the most significant first; just b if the width is none.
func Put(b []byte, n uint64, width int) []byte {
	if !isWidth(width) {
		width = 0
	}
	out := grown(b, width)
	fill(out[len(b):], n)
	return out
}

// PutText returns b followed by the length of s, in the width, and the bytes of s.
func PutText(b []byte, s string, width int) ([]byte, api.Errno) {
	if !isTextWidth(width) {
		return nil, api.ErrArg
	}
	if uint64(len(s))>>(8*width) != 0 {
		return nil, api.ErrLong
	}
	out := grown(b, width+len(s))
	text := len(b) + width
	fill(out[len(b):text], uint64(len(s)))
	copy(out[text:], s)
	return out, api.OK
}

// Reader reads a copy of some bytes from the front on. The zero one is bad, as one is that was asked for what is not there.
type Reader struct {
	opened bool
	rest   []byte
}

// Open returns a reader of the present content of b.
func Open(b []byte) *Reader {
	return &Reader{opened: true, rest: grown(b, 0)}
}

// Bad reports whether the reader was asked for something that is not there, or is none.
func (r *Reader) Bad() bool { return r == nil || !r.opened }

// Left returns the number of bytes from the position on.
func (r *Reader) Left() int {
	if r.Bad() {
		return 0
	}
	return len(r.rest)
}

// Take returns the next n bytes.
func (r *Reader) Take(n int) []byte {
	// What claim answers is the reader's own memory, which nobody else may get hold of.
	return grown(r.claim(func([]byte) (int, bool) { return n, true }), 0)
}

// Num returns the number that the next bytes encode, as many as the width says.
func (r *Reader) Num(width int) uint64 {
	return number(r.claim(func([]byte) (int, bool) { return width, isWidth(width) }))
}

// Text returns the string that is encoded at the position, of at most so many bytes.
func (r *Reader) Text(width, most int) string {
	whole := r.claim(func(rest []byte) (int, bool) {
		if !isTextWidth(width) || width > len(rest) {
			return 0, false
		}
		size := number(rest[:width])
		// The length is held against most while it is unsigned: four bytes may say more than an int holds.
		if most < 0 || size > uint64(most) {
			return 0, false
		}
		return width + int(size), true
	})
	if r.Bad() {
		return ""
	}
	return string(whole[width:])
}

// claim moves the position behind the bytes that need asks for, and returns them; if they are not there, the reader becomes bad.
func (r *Reader) claim(need func(rest []byte) (n int, possible bool)) []byte {
	if r.Bad() {
		return nil
	}
	n, possible := need(r.rest)
	if !possible || n < 0 || n > len(r.rest) {
		*r = Reader{}
		return nil
	}
	claimed := r.rest[:n]
	r.rest = r.rest[n:]
	return claimed
}

func isWidth(width int) bool { return width == 8 || isTextWidth(width) }

func isTextWidth(width int) bool { return width == 1 || width == 2 || width == 4 }

// grown returns a copy of b with so many bytes 0 behind it: what callers hand in, its spare capacity included, stays theirs.
func grown(b []byte, more int) []byte {
	out := make([]byte, len(b)+more)
	copy(out, b)
	return out
}

// fill writes the lowest bytes of n into all of place.
func fill(place []byte, n uint64) {
	for i := range len(place) {
		place[len(place)-1-i] = byte(n >> (8 * i))
	}
}

func number(b []byte) uint64 {
	var n uint64
	for _, c := range b {
		n = n<<8 | uint64(c)
	}
	return n
}
