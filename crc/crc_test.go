package crc_test

import (
	"bytes"
	"hash/crc32"
	"math"
	"math/bits"
	"math/rand"
	"strings"
	"testing"

	"lockkeeper/crc"
)

// byDefinition is the checksum of b as the chapter's Terms define it, bit by bit.
func byDefinition(b []byte) uint32 {
	register := uint32(math.MaxUint32)
	for _, c := range b {
		register ^= uint32(c)
		for range 8 {
			out := register & 1
			register >>= 1
			if out == 1 {
				register ^= 0x82F63B78
			}
		}
	}
	return ^register
}

// some returns so many bytes, the same ones each time.
func some(size int) []byte {
	b := make([]byte, size)
	rand.New(rand.NewSource(int64(size))).Read(b)
	return b
}

// samples returns bytes of many sizes and kinds, none at all among them.
func samples() [][]byte {
	all := [][]byte{
		nil,
		{},
		[]byte("123456789"),
		bytes.Repeat([]byte{0}, 32),
		bytes.Repeat([]byte{0xff}, 32),
		[]byte(strings.Repeat("ab", 500)),
		some(1 << 16),
	}
	for i := range 256 {
		all = append(all, []byte{byte(i)})
	}
	for size := range 70 {
		all = append(all, some(size))
	}
	return all
}

// inverted returns b with the bits at these places inverted, counted from the lowest bit of the first byte on.
func inverted(b []byte, places ...int) []byte {
	out := bytes.Clone(b)
	for _, p := range places {
		out[p/8] ^= 1 << (p % 8)
	}
	return out
}

func closed(t *testing.T, b []byte, name string, places ...int) {
	t.Helper()
	if got, is := crc.Open(b); is || got != nil {
		t.Errorf("%s %v: opened, %x", name, places, got)
	}
}

// P2.1

func TestSum(t *testing.T) {
	ascending, descending := make([]byte, 32), make([]byte, 32)
	for i := range 32 {
		ascending[i], descending[i] = byte(i), byte(31-i)
	}
	for _, c := range []struct {
		b    []byte
		want uint32
	}{
		{nil, 0},
		{[]byte{}, 0},
		{[]byte("123456789"), 0xE3069283},
		{make([]byte, 4), 0x48674BC7},
		// The examples of the iSCSI standard (RFC 3720).
		{make([]byte, 32), 0x8A9136AA},
		{bytes.Repeat([]byte{0xff}, 32), 0x62A8AB43},
		{ascending, 0x46DD794E},
		{descending, 0x113FDB5C},
	} {
		if got := crc.Sum(c.b); got != c.want {
			t.Errorf("%x: %08X, not %08X", c.b, got, c.want)
		}
	}
}

func TestSumIsAsDefined(t *testing.T) {
	castagnoli := crc32.MakeTable(crc32.Castagnoli)
	for _, b := range samples() {
		got := crc.Sum(b)
		if want := byDefinition(b); got != want {
			t.Errorf("%d bytes: %08X, by the definition %08X", len(b), got, want)
		}
		if want := crc32.Checksum(b, castagnoli); got != want {
			t.Errorf("%d bytes: %08X, by the library %08X", len(b), got, want)
		}
	}
}

func TestMore(t *testing.T) {
	if got := crc.More(crc.Sum([]byte("1234")), []byte("56789")); got != 0xE3069283 {
		t.Errorf("%08X", got)
	}
	for _, b := range samples() {
		want := byDefinition(b)
		for cut := range min(len(b), 100) + 1 {
			if got := crc.More(crc.Sum(b[:cut]), b[cut:]); got != want {
				t.Errorf("%d bytes cut at %d: %08X, not %08X", len(b), cut, got, want)
			}
		}
	}
}

// TestMoreOfAnySum: each number is the checksum of some four bytes (P2.4), so that each may be continued.
func TestMoreOfAnySum(t *testing.T) {
	castagnoli := crc32.MakeTable(crc32.Castagnoli)
	for _, sum := range []uint32{0, 1, 0x7fffffff, 0x80000000, 0x82F63B78, 0xE3069283, math.MaxUint32} {
		for _, b := range samples() {
			if got, want := crc.More(sum, b), crc32.Update(sum, castagnoli, b); got != want {
				t.Errorf("%08X and %d bytes: %08X, not %08X", sum, len(b), got, want)
			}
		}
		if crc.More(sum, nil) != sum || crc.More(sum, []byte{}) != sum {
			t.Errorf("%08X and nothing", sum)
		}
	}
}

// P2.2

func TestSeal(t *testing.T) {
	for _, c := range []struct{ b, want string }{
		{"", "\x00\x00\x00\x00"},
		{"123456789", "123456789\x83\x92\x06\xe3"},
		{"\x00\x00\x00\x00", "\x00\x00\x00\x00\xc7\x4b\x67\x48"},
	} {
		if got := crc.Seal([]byte(c.b)); string(got) != c.want {
			t.Errorf("%q: %q", c.b, got)
		}
	}
	if got := crc.Seal(nil); string(got) != "\x00\x00\x00\x00" {
		t.Errorf("nil: %q", got)
	}
	for _, b := range samples() {
		n := byDefinition(b)
		want := append(bytes.Clone(b), byte(n), byte(n>>8), byte(n>>16), byte(n>>24))
		if got := crc.Seal(b); !bytes.Equal(got, want) {
			t.Errorf("%d bytes: %x", len(b), got)
		}
	}
}

func TestOpenOfSealed(t *testing.T) {
	for _, b := range samples() {
		if got, is := crc.Open(crc.Seal(b)); !is || !bytes.Equal(got, b) {
			t.Errorf("%d bytes: %v, %d bytes", len(b), is, len(got))
		}
		twice := crc.Seal(crc.Seal(b))
		if got, is := crc.Open(twice); !is || !bytes.Equal(got, crc.Seal(b)) {
			t.Errorf("%d bytes sealed twice: %v, %d bytes", len(b), is, len(got))
		}
	}
	if got, is := crc.Open(make([]byte, 4)); !is || len(got) != 0 {
		t.Errorf("nothing, sealed: %v, %x", is, got)
	}
}

func TestOpenOfUnsealed(t *testing.T) {
	closed(t, nil, "nil")
	for size := range 4 {
		closed(t, make([]byte, size), "too short")
		closed(t, some(size), "too short")
	}
	for _, b := range samples() {
		n := byDefinition(b)
		if n != bits.ReverseBytes32(n) {
			closed(t, append(bytes.Clone(b), byte(n>>24), byte(n>>16), byte(n>>8), byte(n)), "the highest byte first")
		}
		closed(t, append(bytes.Clone(b), byte(^n), byte(^n>>8), byte(^n>>16), byte(^n>>24)), "inverted")
		sealed := crc.Seal(b)
		closed(t, append(bytes.Clone(sealed), 0), "a byte too many")
		closed(t, sealed[:len(sealed)-1], "a byte too few")
		closed(t, append([]byte{1}, sealed...), "a byte before it")
	}
	closed(t, []byte("\xe3\x06\x92\x83123456789"), "the checksum in front, the highest byte first")
	closed(t, []byte("\x83\x92\x06\xe3123456789"), "the checksum in front")
}

// TestOpenOfAllShort: of all strings of a byte and a checksum that begins with two given bytes, just the sealed one opens.
func TestOpenOfAllShort(t *testing.T) {
	sealed := crc.Seal([]byte("a"))
	for n := range 1 << 16 {
		b := bytes.Clone(sealed)
		b[3], b[4] = byte(n>>8), byte(n)
		if got, is := crc.Open(b); is != bytes.Equal(b, sealed) || is && string(got) != "a" {
			t.Errorf("%x: %v, %x", b, is, got)
		}
	}
}

// TestNothingIsShared: what was handed in stays as it is, also behind its end, and results are memory of their own (R5).
func TestNothingIsShared(t *testing.T) {
	calls := map[string]func(b []byte) []byte{
		"Seal": crc.Seal,
		"Open": func(b []byte) []byte {
			out, _ := crc.Open(b)
			return out
		},
		"Sum": func(b []byte) []byte {
			crc.Sum(b)
			return nil
		},
		"More": func(b []byte) []byte {
			crc.More(7, b)
			return nil
		},
	}
	whole := append(crc.Seal([]byte("abc")), "behind it"...)
	for name, call := range calls {
		room := bytes.Clone(whole)
		out := call(room[:7])
		if !bytes.Equal(room, whole) {
			t.Errorf("%s: what was handed in is %q", name, room)
		}
		before := bytes.Clone(out)
		clear(room)
		if !bytes.Equal(out, before) {
			t.Errorf("%s: the result follows what was handed in: %q", name, out)
		}
		for i := range out[:cap(out)] {
			out[:cap(out)][i] = '!'
		}
		if !bytes.Equal(room, make([]byte, len(room))) {
			t.Errorf("%s: what was handed in follows the result: %q", name, room)
		}
	}
}

// P2.3

// changes returns, for each bit of sealed bytes of a size, how the checksum of all of them changes if it is inverted.
func changes(size int) []uint32 {
	zero := make([]byte, size)
	var all []uint32
	for p := range 8 * size {
		all = append(all, crc.Sum(zero)^crc.Sum(inverted(zero, p)))
	}
	return all
}

// TestChangesAddUp: what the next tests rest on. Bytes are sealed if and only if the checksum of all of them is that of four bytes 0, and inverted bits change it by what each of them changes, whatever the bytes are.
func TestChangesAddUp(t *testing.T) {
	const open = 0x48674BC7
	rng := rand.New(rand.NewSource(23))
	for _, size := range []int{4, 5, 12, 33} {
		each := changes(size)
		for range 300 {
			sealed := crc.Seal(some(size - 4))
			if crc.Sum(sealed) != open {
				t.Fatalf("%x: %08X", sealed, crc.Sum(sealed))
			}
			want := uint32(open)
			places := rng.Perm(8 * size)[:1+rng.Intn(8*size)]
			for _, p := range places {
				want ^= each[p]
			}
			broken := inverted(sealed, places...)
			if got := crc.Sum(broken); got != want {
				t.Fatalf("%v: %08X, not %08X", places, got, want)
			}
			if _, is := crc.Open(broken); is != (want == open) {
				t.Fatalf("%v: %v", places, is)
			}
		}
	}
}

func TestOneOrTwoBitsInverted(t *testing.T) {
	for _, b := range [][]byte{nil, []byte("a"), []byte("123456789"), some(30)} {
		sealed := crc.Seal(b)
		for p := range 8 * len(sealed) {
			closed(t, inverted(sealed, p), "one bit", p)
			for q := range p {
				closed(t, inverted(sealed, q, p), "two bits", q, p)
			}
		}
	}
}

func TestThreeBitsInverted(t *testing.T) {
	sealed := crc.Seal([]byte("abc"))
	for p := range 8 * len(sealed) {
		for q := range p {
			for r := range q {
				closed(t, inverted(sealed, r, q, p), "three bits", r, q, p)
			}
		}
	}
}

// TestOddNumbersOfBitsInverted: each bit changes an odd number of bits of the checksum, so that an odd number of them changes it, wherever they lie.
func TestOddNumbersOfBitsInverted(t *testing.T) {
	for p, change := range changes(300) {
		if bits.OnesCount32(change)%2 != 1 {
			t.Errorf("bit %d: %08X", p, change)
		}
	}
	rng := rand.New(rand.NewSource(24))
	for _, size := range []int{0, 1, 9, 64, 1000} {
		sealed := crc.Seal(some(size))
		for range 300 {
			n := 1 + 2*rng.Intn(4*len(sealed))
			places := rng.Perm(8 * len(sealed))[:n]
			closed(t, inverted(sealed, places...), "an odd number of bits", places...)
		}
	}
}

// TestTwoBitsFarApart follows the change that the lowest bit of a byte makes, over 2^27 bytes and their checksum: no bit of any of them undoes it.
func TestTwoBitsFarApart(t *testing.T) {
	zero := []byte{0}
	change := uint32(1)
	for n := range 1<<27 + 4 {
		if n > 0 && change < 256 && bits.OnesCount32(change) == 1 {
			t.Fatalf("undone %d bytes further on, by the bit %x", n, change)
		}
		change = ^crc.More(^change, zero)
	}
}

// TestBitsWithinASpanInverted: no bits of a span of 32 undo each other's changes.
func TestBitsWithinASpanInverted(t *testing.T) {
	each := changes(40)
	for first := range len(each) - 31 {
		if !independent(each[first : first+32]) {
			t.Errorf("from bit %d on", first)
		}
	}
	rng := rand.New(rand.NewSource(25))
	sealed := crc.Seal([]byte("some text"))
	for first := range 8*len(sealed) - 31 {
		for range 200 {
			n := 1 + rng.Intn(32)
			places := rng.Perm(32)[:n]
			for i := range places {
				places[i] += first
			}
			closed(t, inverted(sealed, places...), "within a span", places...)
		}
		all := make([]int, 32)
		for i := range all {
			all[i] = first + i
		}
		closed(t, inverted(sealed, all...), "a whole span", all...)
	}
}

// independent reports whether no selection of the numbers, but none of them, is 0 if combined by exclusive or.
func independent(numbers []uint32) bool {
	var byHighest [33]uint32
	for _, n := range numbers {
		for n != 0 && byHighest[bits.Len32(n)] != 0 {
			n ^= byHighest[bits.Len32(n)]
		}
		if n == 0 {
			return false
		}
		byHighest[bits.Len32(n)] = n
	}
	return true
}

// P2.4

// TestFourBytesDiffer: whatever lies before them, the bits of four bytes make changes of which no selection is none.
func TestFourBytesDiffer(t *testing.T) {
	for _, before := range [][]byte{nil, []byte("a"), []byte("123456789"), some(100)} {
		sum := crc.Sum(before)
		zero := make([]byte, 4)
		var all []uint32
		for p := range 32 {
			all = append(all, crc.More(sum, zero)^crc.More(sum, inverted(zero, p)))
		}
		if !independent(all) {
			t.Errorf("behind %x", before)
		}
	}
}

func TestFourBytesDifferOneByOne(t *testing.T) {
	for _, before := range [][]byte{nil, some(100)} {
		seen := map[uint32]uint32{}
		try := func(n uint32) {
			b := []byte{byte(n >> 24), byte(n >> 16), byte(n >> 8), byte(n)}
			sum := crc.Sum(append(bytes.Clone(before), b...))
			if other, is := seen[sum]; is && other != n {
				t.Errorf("behind %d bytes, %08X and %08X: %08X", len(before), n, other, sum)
			}
			seen[sum] = n
		}
		for n := range uint32(1 << 16) {
			for shift := range 3 {
				try(n << (8 * shift))
			}
			try(n * 0x10001)
		}
	}
}

func TestMoreByAnyPieces(t *testing.T) {
	for _, b := range samples() {
		for _, size := range []int{1, 2, 3, 7, 64} {
			sum := crc.Sum(nil)
			for rest := b; len(rest) > 0; {
				n := min(size, len(rest))
				sum = crc.More(sum, rest[:n])
				rest = rest[n:]
			}
			if sum != crc.Sum(b) {
				t.Errorf("%d bytes by %d: %08X, not %08X", len(b), size, sum, crc.Sum(b))
			}
		}
	}
}
