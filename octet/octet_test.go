package octet_test

import (
	"bytes"
	"math"
	"strconv"
	"strings"
	"testing"

	"lockkeeper/api"
	"lockkeeper/octet"
)

var (
	widths     = []int{1, 2, 4, 8}
	textWidths = []int{1, 2, 4}
	noWidths   = []int{math.MinInt, -8, -1, 0, 3, 5, 6, 7, 9, 16, 256, math.MaxInt}
)

// reachable is b with its spare capacity.
func reachable(b []byte) []byte { return b[:cap(b)] }

func label(parts ...int) string {
	var words []string
	for _, p := range parts {
		words = append(words, strconv.Itoa(p))
	}
	return strings.Join(words, " ")
}

func text(t *testing.T, s string, width int) []byte {
	t.Helper()
	b, e := octet.PutText(nil, s, width)
	if e != api.OK {
		t.Fatalf("PutText of %d bytes in %d: %v", len(s), width, e)
	}
	return b
}

// isBad checks that a reader gives nothing, whatever it is asked.
func isBad(t *testing.T, name string, r *octet.Reader) {
	t.Helper()
	for range 2 {
		if !r.Bad() || r.Left() != 0 {
			t.Errorf("%s: Bad %v, Left %d", name, r.Bad(), r.Left())
		}
		for _, width := range append(widths, noWidths...) {
			if n := r.Num(width); n != 0 {
				t.Errorf("%s: Num(%d) %d", name, width, n)
			}
			if s := r.Text(width, math.MaxInt); s != "" {
				t.Errorf("%s: Text(%d) %q", name, width, s)
			}
			if b := r.Take(width); len(b) != 0 {
				t.Errorf("%s: Take(%d) %x", name, width, b)
			}
		}
	}
}

// P1.1

func TestPut(t *testing.T) {
	for _, c := range []struct {
		b     string
		n     uint64
		width int
		want  string
	}{
		{"\x07", 258, 2, "\x07\x01\x02"},
		{"", 258, 1, "\x02"},
		{"\x07", 1, 3, "\x07"},
		{"", 0, 1, "\x00"},
		{"", 0, 8, "\x00\x00\x00\x00\x00\x00\x00\x00"},
		{"", 255, 1, "\xff"},
		{"", 256, 1, "\x00"},
		{"", 65535, 2, "\xff\xff"},
		{"", 65536, 2, "\x00\x00"},
		{"ab", 0x01020304, 4, "ab\x01\x02\x03\x04"},
		{"", 0xfffffffff1020304, 4, "\xf1\x02\x03\x04"},
		{"", 0x0102030405060708, 8, "\x01\x02\x03\x04\x05\x06\x07\x08"},
		{"", math.MaxUint64, 8, "\xff\xff\xff\xff\xff\xff\xff\xff"},
	} {
		if got := octet.Put([]byte(c.b), c.n, c.width); string(got) != c.want {
			t.Errorf("Put(%q, %d, %d) %q", c.b, c.n, c.width, got)
		}
	}
}

func TestPutWithoutWidth(t *testing.T) {
	for _, width := range noWidths {
		if got := octet.Put([]byte("ab"), 7, width); string(got) != "ab" {
			t.Errorf("width %d: %q", width, got)
		}
		if got := octet.Put(nil, 7, width); len(got) != 0 {
			t.Errorf("width %d behind nothing: %q", width, got)
		}
	}
}

func TestPutText(t *testing.T) {
	for _, c := range []struct {
		b, s  string
		width int
		want  string
	}{
		{"", "ab", 2, "\x00\x02ab"},
		{"xy", "ab", 1, "xy\x02ab"},
		{"xy", "", 4, "xy\x00\x00\x00\x00"},
		{"", "\x00\xff", 4, "\x00\x00\x00\x02\x00\xff"},
		{"", strings.Repeat("a", 255), 1, "\xff" + strings.Repeat("a", 255)},
		{"", strings.Repeat("a", 256), 2, "\x01\x00" + strings.Repeat("a", 256)},
		{"", strings.Repeat("a", 65535), 2, "\xff\xff" + strings.Repeat("a", 65535)},
		{"", strings.Repeat("a", 65536), 4, "\x00\x01\x00\x00" + strings.Repeat("a", 65536)},
	} {
		if got, e := octet.PutText([]byte(c.b), c.s, c.width); string(got) != c.want || e != api.OK {
			t.Errorf("%q, %d bytes, %d: %d bytes, %v", c.b, len(c.s), c.width, len(got), e)
		}
	}
}

func TestPutTextErrors(t *testing.T) {
	refused := func(s string, width int, want api.Errno) {
		t.Helper()
		if got, e := octet.PutText([]byte("x"), s, width); got != nil || e != want {
			t.Errorf("%d bytes, %d: %q, %v", len(s), width, got, e)
		}
	}
	refused(strings.Repeat("a", 256), 1, api.ErrLong)
	refused(strings.Repeat("a", 65536), 1, api.ErrLong)
	refused(strings.Repeat("a", 65536), 2, api.ErrLong)
	for _, width := range append(noWidths, 8) {
		refused("", width, api.ErrArg)
		refused("a", width, api.ErrArg)
		refused(strings.Repeat("a", 65536), width, api.ErrArg)
	}
}

// TestPutSharesNothing: what was handed in stays as it is, also behind its end, and the result is memory of its own (R5).
func TestPutSharesNothing(t *testing.T) {
	calls := map[string]func(b []byte) []byte{
		"number":   func(b []byte) []byte { return octet.Put(b, 0x1111, 2) },
		"no width": func(b []byte) []byte { return octet.Put(b, 0x1111, 3) },
		"text": func(b []byte) []byte {
			out, _ := octet.PutText(b, "yy", 1)
			return out
		},
	}
	for name, call := range calls {
		room := []byte("ab345678")
		out := call(room[:2])
		if string(room) != "ab345678" {
			t.Errorf("%s: what was handed in is %q", name, room)
		}
		all := reachable(out)
		for i := range all {
			all[i] = '!'
		}
		if string(room) != "ab345678" {
			t.Errorf("%s: the result is what was handed in: %q", name, room)
		}
	}
}

// P1.2

func TestTake(t *testing.T) {
	r := octet.Open([]byte("abcdef"))
	for _, c := range []struct {
		n    int
		want string
		left int
	}{{0, "", 6}, {2, "ab", 4}, {1, "c", 3}, {0, "", 3}, {3, "def", 0}, {0, "", 0}} {
		if got := r.Take(c.n); string(got) != c.want || r.Left() != c.left || r.Bad() {
			t.Errorf("Take(%d) %q, Left %d, Bad %v", c.n, got, r.Left(), r.Bad())
		}
	}
	if got := r.Take(1); len(got) != 0 || !r.Bad() {
		t.Errorf("behind the end: %q", got)
	}
}

func TestTakeOfTooMuch(t *testing.T) {
	for _, n := range []int{math.MinInt, -1, 5, math.MaxInt} {
		r := octet.Open([]byte("abcd"))
		if got := r.Take(n); len(got) != 0 {
			t.Errorf("Take(%d) %q", n, got)
		}
		isBad(t, "after Take of "+label(n), r)
	}
	for _, b := range [][]byte{nil, {}} {
		r := octet.Open(b)
		if r.Bad() || len(r.Take(0)) != 0 || r.Bad() {
			t.Error("nothing of nothing makes it bad")
		}
		r.Take(1)
		isBad(t, "after one of nothing", r)
	}
}

// TestReaderSharesNothing: the reader has its own copy, and what it returns is nobody else's (R5).
func TestReaderSharesNothing(t *testing.T) {
	b := []byte("abcdef")
	r := octet.Open(b)
	b[0], b[5] = '!', '!'
	taken := reachable(r.Take(2))
	if string(taken[:2]) != "ab" {
		t.Errorf("the copy follows what was handed in: %q", taken)
	}
	for i := range taken {
		taken[i] = '?'
	}
	if got := r.Take(4); string(got) != "cdef" {
		t.Errorf("the rest follows what was returned: %q", got)
	}
	if string(b) != "!bcde!" {
		t.Errorf("what was handed in is %q", b)
	}
	one, other := octet.Open(b), octet.Open(b)
	one.Take(7)
	if other.Bad() || other.Left() != 6 {
		t.Error("one reader's end is another one's")
	}
}

// P1.3

func TestNum(t *testing.T) {
	r := octet.Open([]byte{1, 2, 3})
	if r.Num(2) != 258 || r.Left() != 1 {
		t.Error("the first two of three bytes")
	}
	if r.Num(2) != 0 {
		t.Error("two of one byte")
	}
	isBad(t, "after two of one byte", r)

	for _, width := range widths {
		for _, n := range []uint64{0, 1, 0x80, 0xff, 0x100, 0xfffe, 0x10203040, 0xfedcba98, 1<<63 | 5, math.MaxUint64} {
			r := octet.Open(octet.Put(octet.Put(nil, n, width), 9, 1))
			want := n << (64 - 8*width) >> (64 - 8*width)
			if got := r.Num(width); got != want || r.Left() != 1 || r.Bad() {
				t.Errorf("%x in %d: %x, Left %d", n, width, got, r.Left())
			}
		}
		r := octet.Open(make([]byte, width-1))
		r.Num(width)
		isBad(t, "a byte too few for "+label(width), r)
	}
}

func TestNumWithoutWidth(t *testing.T) {
	for _, width := range noWidths {
		r := octet.Open(bytes.Repeat([]byte{1}, 20))
		if n := r.Num(width); n != 0 {
			t.Errorf("Num(%d) %d", width, n)
		}
		isBad(t, "after Num of "+label(width), r)
	}
}

func TestText(t *testing.T) {
	for _, width := range textWidths {
		for _, s := range []string{"", "a", "ab\x00\xff", strings.Repeat("x", 255)} {
			r := octet.Open(append(text(t, s, width), "ab"...))
			if got := r.Text(width, len(s)); got != s || r.Left() != 2 || r.Bad() {
				t.Errorf("%d bytes in %d: %q, Left %d, Bad %v", len(s), width, got, r.Left(), r.Bad())
			}
		}
	}
	r := octet.Open([]byte("\x02abc"))
	if s := r.Text(1, 9); s != "ab" || r.Left() != 1 {
		t.Errorf("%q, Left %d", s, r.Left())
	}
	if s := octet.Open([]byte("\x02ab")).Text(1, math.MaxInt); s != "ab" {
		t.Errorf("at most anything: %q", s)
	}
}

func TestTextThatIsNotThere(t *testing.T) {
	for _, c := range []struct {
		b           string
		width, most int
	}{
		{"\x02abc", 1, 1},
		{"\x02abc", 1, 0},
		{"\x02abc", 1, -1},
		{"\x02abc", 1, math.MinInt},
		{"\x00abc", 1, -1},
		{"\x04abc", 1, 9},
		{"\x01", 1, 9},
		{"", 1, 9},
		{"", 1, 0},
		{"\x00", 2, 9},
		{"\x00\x02a", 2, 9},
		{"\x00\x00\x00", 4, 9},
		{"\x00\x00\x00\x02a", 4, 9},
		{"\x7f\xff\xff\xffabc", 4, math.MaxInt},
		{"\xff\xff\xff\xffabc", 4, math.MaxInt},
		{"\x00\x00\x00\x00\x00\x00\x00\x01a", 8, 9},
		{"\x00\x00\x00\x00\x00\x00\x00\x00", 8, 9},
	} {
		r := octet.Open([]byte(c.b))
		if s := r.Text(c.width, c.most); s != "" {
			t.Errorf("%q %d %d: %q", c.b, c.width, c.most, s)
		}
		isBad(t, "after Text of "+label(c.width, c.most), r)
	}
	for _, width := range noWidths {
		r := octet.Open(make([]byte, 20))
		if s := r.Text(width, 9); s != "" {
			t.Errorf("width %d: %q", width, s)
		}
		isBad(t, "after Text of "+label(width), r)
	}
}

// P1.4

func TestLeftAndBad(t *testing.T) {
	r := octet.Open(octet.Put(text(t, "abc", 2), 7, 4))
	if r.Left() != 9 || r.Bad() {
		t.Errorf("at first: Left %d, Bad %v", r.Left(), r.Bad())
	}
	r.Text(2, 3)
	if r.Left() != 4 || r.Bad() {
		t.Errorf("behind the string: Left %d, Bad %v", r.Left(), r.Bad())
	}
	r.Num(4)
	if r.Left() != 0 || r.Bad() {
		t.Errorf("at the end: Left %d, Bad %v", r.Left(), r.Bad())
	}
	r.Num(1)
	isBad(t, "behind the end", r)
}

func TestNoReaders(t *testing.T) {
	isBad(t, "nil", nil)
	isBad(t, "zero", new(octet.Reader))
}

// P1.5

func TestEncodedNumbersAreInOrder(t *testing.T) {
	numbers := []uint64{0, 1, 127, 128, 255, 256, 257, 511, 65535, 65536, 1 << 24, 1<<32 - 1, 1 << 32, 1 << 56, 1 << 63, math.MaxUint64}
	for _, width := range widths {
		for i, n := range numbers {
			if n<<(64-8*width)>>(64-8*width) != n {
				break
			}
			for _, smaller := range numbers[:i] {
				if bytes.Compare(octet.Put(nil, smaller, width), octet.Put(nil, n, width)) >= 0 {
					t.Errorf("in %d, %d is not before %d", width, smaller, n)
				}
			}
		}
	}
}

func TestNoEncodedStringBeginsAnother(t *testing.T) {
	texts := []string{"", "\x00", "\x00\x00", "\x01", "\x01a", "a", "aa", "ab", "b", strings.Repeat("a", 97), strings.Repeat("a", 255)}
	for _, width := range textWidths {
		for _, a := range texts {
			for _, b := range texts {
				if a != b && bytes.HasPrefix(text(t, b, width), text(t, a, width)) {
					t.Errorf("in %d, %q begins %q", width, a, b)
				}
			}
		}
	}
}

// P1.6

// ask is one call on a reader: what it returned, as a string.
type ask func(r *octet.Reader) string

func asks() []ask {
	return []ask{
		func(r *octet.Reader) string { return strconv.FormatUint(r.Num(1), 10) },
		func(r *octet.Reader) string { return r.Text(2, 3) },
		func(r *octet.Reader) string { return string(r.Take(2)) },
		func(r *octet.Reader) string { return strconv.FormatUint(r.Num(8), 10) },
		func(r *octet.Reader) string { return r.Text(1, 1) },
		func(r *octet.Reader) string { return r.Text(4, 9) },
	}
}

func sample(t *testing.T) []byte {
	b := octet.Put(nil, 200, 1)
	b = append(b, text(t, "abc", 2)...)
	b = append(b, "xy"...)
	b = octet.Put(b, 1<<40, 8)
	b = append(b, text(t, "", 1)...)
	return append(b, text(t, "end", 4)...)
}

func TestReadersWithMoreBehind(t *testing.T) {
	b := sample(t)
	for _, more := range []string{"\x00", "\xff\xff\xff\xff\xff\xff\xff\xff\xff", "abc"} {
		short, long := octet.Open(b), octet.Open(append(append([]byte{}, b...), more...))
		for i, a := range asks() {
			if x, y := a(short), a(long); x != y || short.Bad() || long.Bad() || long.Left() != short.Left()+len(more) {
				t.Errorf("call %d, %q behind: %q, %q", i, more, x, y)
			}
		}
	}
}

func TestReadersOfCutBytes(t *testing.T) {
	b := sample(t)
	for cut := range len(b) {
		whole, part := octet.Open(b), octet.Open(b[:cut])
		for i, a := range asks() {
			want, got := a(whole), a(part)
			if there := len(b)-whole.Left() <= cut; !there {
				if got != "" && got != "0" {
					t.Errorf("cut at %d, call %d: %q", cut, i, got)
				}
				isBad(t, "cut at "+label(cut), part)
				break
			}
			if got != want || part.Bad() {
				t.Errorf("cut at %d, call %d: %q, not %q", cut, i, got, want)
			}
		}
	}
}
