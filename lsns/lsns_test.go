package lsns_test

import (
	"bytes"
	"encoding/binary"
	"math"
	"math/rand"
	"slices"
	"strconv"
	"testing"

	"lockkeeper/api"
	"lockkeeper/lsns"
)

const top = math.MaxUint64

func set(low uint64, in ...uint64) api.Lsns { return api.Lsns{Low: low, In: in} }

// even returns a set of so many numbers: every second one above low.
func even(low uint64, size int) api.Lsns {
	l := api.Lsns{Low: low}
	for i := range size {
		l.In = append(l.In, low+2*uint64(i)+2)
	}
	return l
}

// show is a set, of which not more is shown than can be read.
func show(l api.Lsns) string {
	s := strconv.FormatUint(l.Low, 10) + " and"
	for _, n := range l.In[:min(len(l.In), 8)] {
		s += " " + strconv.FormatUint(n, 10)
	}
	return s + " (" + strconv.Itoa(len(l.In)) + ")"
}

// valid returns all sets of a few numbers above some Lows, and sets as large as they may be.
func valid() []api.Lsns {
	var all []api.Lsns
	for _, low := range []uint64{0, 1, 2, 4, 1 << 32, 1 << 48, top - 4} {
		for choice := range 16 {
			l := api.Lsns{Low: low}
			for i := range uint64(4) {
				if choice>>i&1 == 1 {
					l.In = append(l.In, low+1+i)
				}
			}
			all = append(all, l)
		}
	}
	return append(all,
		set(top), set(top-1), set(top-1, top), set(0, top), set(0, 1<<8, 1<<16, 1<<24, 1<<40, 1<<56, 1<<63),
		api.Lsns{Low: 2, In: []uint64{}},
		even(0, 999), even(0, 1000), even(1, 1000), even(2, 1000), even(top-2000, 1000),
	)
}

func invalid() []api.Lsns {
	late := even(0, 1000)
	late.In[999] = late.In[998]
	return []api.Lsns{
		set(0, 0), set(2, 2), set(2, 1), set(2, 0), set(2, 2, 3), set(2, 1, 3), set(2, 3, 2), set(2, 5, 1),
		set(2, 5, 5), set(2, 5, 4), set(2, 3, 5, 5), set(2, 3, 5, 4), set(2, 4, 3, 5), set(2, 3, 3, 5),
		set(top, 0), set(top, top), set(top-1, top, 0), set(top-1, top, top),
		even(0, 1001), even(7, 1500), even(0, 5000), late,
	}
}

// numbers returns what is to be asked of some sets: what is in them, next to them, or far away.
func numbers(sets ...api.Lsns) []uint64 {
	all := []uint64{0, 1, 2, 3, 4, 5, 6, 7, 8, 9, 999, 1000, 1001, 2000, 2001, 1 << 32, 1 << 48, top - 1, top}
	for _, l := range sets {
		all = append(all, l.Low-1, l.Low, l.Low+1)
		for i, n := range l.In {
			if i < 8 || i+8 > len(l.In) {
				all = append(all, n-1, n, n+1)
			}
		}
	}
	slices.Sort(all)
	return slices.Compact(all)
}

// isIn reports whether n is in a valid set, as the chapter's Terms say.
func isIn(l api.Lsns, n uint64) bool {
	if n <= l.Low {
		return true
	}
	for _, x := range l.In {
		if x == n {
			return true
		}
	}
	return false
}

// alike reports whether two sets are the same, held against each other here.
func alike(a, b api.Lsns) bool { return a.Low == b.Low && slices.Equal(a.In, b.In) }

// isNone reports whether a set is the zero one, which stands beside an error.
func isNone(l api.Lsns) bool { return l.Low == 0 && len(l.In) == 0 }

// wants checks what Add, Raise or Join answered.
func wants(t *testing.T, name string, got api.Lsns, e api.Errno, want api.Lsns) {
	t.Helper()
	if e != api.OK || !alike(got, want) {
		t.Errorf("%s: %s, %v, not %s", name, show(got), e, show(want))
	}
}

func refused(t *testing.T, name string, got api.Lsns, e, want api.Errno) {
	t.Helper()
	if e != want || !isNone(got) {
		t.Errorf("%s: %s, %v, not %v", name, show(got), e, want)
	}
}

// P4.1

func TestRight(t *testing.T) {
	for _, l := range valid() {
		if !lsns.Right(l) {
			t.Error(show(l))
		}
	}
	for _, l := range invalid() {
		if lsns.Right(l) {
			t.Error(show(l))
		}
	}
	if !lsns.Right(api.Lsns{}) {
		t.Error("the zero set")
	}
}

func TestHas(t *testing.T) {
	for _, l := range valid() {
		for _, n := range numbers(l) {
			if got := lsns.Has(l, n); got != isIn(l, n) {
				t.Errorf("%s: %d: %v", show(l), n, got)
			}
		}
	}
	for _, l := range invalid() {
		for _, n := range numbers(l) {
			if lsns.Has(l, n) {
				t.Errorf("%s, which is not valid, has %d", show(l), n)
			}
		}
	}
}

func TestHasAllOfAFullSet(t *testing.T) {
	full := even(10, 1000)
	for n := range uint64(3000) {
		want := n <= 10 || n <= 2010 && n%2 == 0
		if lsns.Has(full, n) != want {
			t.Errorf("%d: not %v", n, want)
		}
	}
}

func TestMost(t *testing.T) {
	for _, c := range []struct {
		l    api.Lsns
		want uint64
	}{
		{set(2, 4, 5), 5}, {set(7), 7}, {set(0), 0}, {set(0, 1), 1}, {set(3, 9), 9}, {set(0, top), top}, {set(top), top},
		{api.Lsns{Low: 3, In: []uint64{}}, 3}, {even(0, 1000), 2000}, {even(7, 999), 2005},
	} {
		if got := lsns.Most(c.l); got != c.want {
			t.Errorf("%s: %d", show(c.l), got)
		}
	}
	for _, l := range invalid() {
		if got := lsns.Most(l); got != 0 {
			t.Errorf("%s, which is not valid: %d", show(l), got)
		}
	}
}

func TestSame(t *testing.T) {
	all := append(valid(), invalid()...)
	for _, a := range all {
		for _, b := range all {
			if got := lsns.Same(a, b); got != alike(a, b) {
				t.Errorf("%s, %s: %v", show(a), show(b), got)
			}
		}
		copied := api.Lsns{Low: a.Low, In: slices.Clone(a.In)}
		if !lsns.Same(a, copied) {
			t.Errorf("%s and its copy", show(a))
		}
	}
}

func TestSameOfFew(t *testing.T) {
	for _, c := range []struct {
		a, b api.Lsns
		want bool
	}{
		{api.Lsns{Low: 2}, api.Lsns{Low: 2, In: []uint64{}}, true},
		{api.Lsns{}, api.Lsns{}, true},
		{set(2, 5, 4), set(2, 5, 4), true},
		{set(2, 5, 4), set(2, 4, 5), false},
		{set(2, 2), set(2), false},
		{set(2, 3), set(3), false},
		{set(2, 4), set(1, 4), false},
		{set(2, 4), set(2, 5), false},
		{set(2, 4, 5), set(2, 4), false},
		{set(2, 4), set(2, 4, 5), false},
		{set(2), set(2, 4), false},
		{even(0, 1001), even(0, 1001), true},
		{even(0, 1001), even(0, 1000), false},
	} {
		if got := lsns.Same(c.a, c.b); got != c.want {
			t.Errorf("%s, %s: %v", show(c.a), show(c.b), got)
		}
	}
}

// P4.2

func TestAdd(t *testing.T) {
	for _, c := range []struct {
		l    api.Lsns
		n    uint64
		want api.Lsns
	}{
		{set(2, 5), 4, set(2, 4, 5)},
		{set(2, 5), 1, set(2, 5)},
		{set(2, 5), 0, set(2, 5)},
		{set(2, 5), 2, set(2, 5)},
		{set(2, 5), 3, set(2, 3, 5)},
		{set(2, 5), 5, set(2, 5)},
		{set(2, 5), 6, set(2, 5, 6)},
		{set(2, 5), top, set(2, 5, top)},
		{set(2), 3, set(2, 3)},
		{set(0), 0, set(0)},
		{set(0), 1, set(0, 1)},
		{set(2, 3, 5), 4, set(2, 3, 4, 5)},
		{set(top), top, set(top)},
		{even(0, 999), 2000, even(0, 1000)},
	} {
		got, e := lsns.Add(c.l, c.n)
		wants(t, show(c.l)+" with "+strconv.FormatUint(c.n, 10), got, e, c.want)
	}
}

func TestAddToAFullSet(t *testing.T) {
	full := even(10, 1000)
	for _, n := range []uint64{0, 9, 10, 12, 1010, 2008, 2010} {
		got, e := lsns.Add(full, n)
		wants(t, strconv.FormatUint(n, 10), got, e, full)
	}
	for _, n := range []uint64{11, 13, 1011, 2009, 2011, top} {
		got, e := lsns.Add(full, n)
		refused(t, strconv.FormatUint(n, 10), got, e, api.ErrFull)
	}
	almost := even(10, 999)
	for _, n := range []uint64{11, 1011, 2007, 2009, top} {
		got, e := lsns.Add(almost, n)
		if e != api.OK || len(got.In) != 1000 || !lsns.Right(got) || !isIn(got, n) {
			t.Errorf("%d: %s, %v", n, show(got), e)
		}
	}
}

func TestRaise(t *testing.T) {
	for _, c := range []struct {
		l    api.Lsns
		low  uint64
		want api.Lsns
	}{
		{set(2, 4, 5), 4, set(4, 5)},
		{set(2, 4, 5), 0, set(2, 4, 5)},
		{set(2, 4, 5), 1, set(2, 4, 5)},
		{set(2, 4, 5), 2, set(2, 4, 5)},
		{set(2, 4, 5), 3, set(3, 4, 5)},
		{set(2, 4, 5), 5, set(5)},
		{set(2, 4, 5), 6, set(6)},
		{set(2, 4, 5), top, set(top)},
		{set(0), 0, set(0)},
		{set(0), 7, set(7)},
		{set(top), 0, set(top)},
		{even(0, 1000), 998, api.Lsns{Low: 998, In: even(998, 501).In}},
		{even(0, 1000), 1999, set(1999, 2000)},
		{even(0, 1000), 2000, set(2000)},
	} {
		got, e := lsns.Raise(c.l, c.low)
		wants(t, show(c.l)+" to "+strconv.FormatUint(c.low, 10), got, e, c.want)
	}
}

func TestAddAndRaiseOfInvalidSets(t *testing.T) {
	for _, l := range invalid() {
		for _, n := range numbers(l) {
			name := show(l) + ": " + strconv.FormatUint(n, 10)
			got, e := lsns.Add(l, n)
			refused(t, "Add, "+name, got, e, api.ErrLsns)
			got, e = lsns.Raise(l, n)
			refused(t, "Raise, "+name, got, e, api.ErrLsns)
		}
	}
}

// P4.3

func TestJoin(t *testing.T) {
	for _, c := range []struct{ a, b, want api.Lsns }{
		{set(2, 4), set(2, 3, 4), set(2, 3, 4)},
		{set(2), set(2), set(2)},
		{set(2, 4), set(2), set(2, 4)},
		{set(2, 4), set(2, 4), set(2, 4)},
		{set(2, 3), set(2, 4), set(2, 3, 4)},
		{set(2, 3, 7), set(2, 4, 5, 9), set(2, 3, 4, 5, 7, 9)},
		{set(0, 1, top), set(0, 5), set(0, 1, 5, top)},
		{set(top), set(top), set(top)},
		{api.Lsns{Low: 2, In: []uint64{}}, set(2), set(2)},
		{even(0, 1000), set(0), even(0, 1000)},
		{even(0, 1000), even(0, 1000), even(0, 1000)},
		{even(0, 1000), set(0, 2, 1000, 2000), even(0, 1000)},
		{even(0, 999), set(0, 2, 2000), even(0, 1000)},
	} {
		name := show(c.a) + " with " + show(c.b)
		got, e := lsns.Join(c.a, c.b)
		wants(t, name, got, e, c.want)
		got, e = lsns.Join(c.b, c.a)
		wants(t, name+", turned", got, e, c.want)
	}
}

func TestJoinOfManyNumbers(t *testing.T) {
	half := func(first uint64, size int) api.Lsns {
		l := api.Lsns{}
		for i := range size {
			l.In = append(l.In, first+2*uint64(i))
		}
		return l
	}
	odds, evens := half(1, 500), half(2, 500)
	got, e := lsns.Join(odds, evens)
	if e != api.OK || len(got.In) != 1000 || got.In[0] != 1 || got.In[999] != 1000 || !lsns.Right(got) {
		t.Errorf("500 and 500: %s, %v", show(got), e)
	}
	for _, more := range []api.Lsns{half(2, 501), half(2, 1000), half(2002, 501)} {
		got, e = lsns.Join(odds, more)
		refused(t, "500 and "+show(more), got, e, api.ErrFull)
		got, e = lsns.Join(more, odds)
		refused(t, show(more)+" and 500", got, e, api.ErrFull)
	}
	got, e = lsns.Join(even(0, 1000), set(0, 1))
	refused(t, "1000 and another", got, e, api.ErrFull)
	got, e = lsns.Join(set(0, top), even(0, 1000))
	refused(t, "another and 1000", got, e, api.ErrFull)
}

func TestJoinErrorsInOrder(t *testing.T) {
	for _, bad := range invalid() {
		for _, other := range []api.Lsns{set(bad.Low), set(bad.Low + 1), even(0, 1000), bad} {
			got, e := lsns.Join(bad, other)
			refused(t, show(bad)+" with "+show(other), got, e, api.ErrLsns)
			got, e = lsns.Join(other, bad)
			refused(t, show(other)+" with "+show(bad), got, e, api.ErrLsns)
		}
	}
	for _, c := range []struct{ a, b api.Lsns }{
		{set(2), set(3)}, {set(2, 3), set(3)}, {set(0), set(top)}, {even(0, 1000), even(1, 1000)},
	} {
		got, e := lsns.Join(c.a, c.b)
		refused(t, show(c.a)+" with "+show(c.b), got, e, api.ErrState)
		got, e = lsns.Join(c.b, c.a)
		refused(t, show(c.b)+" with "+show(c.a), got, e, api.ErrState)
	}
}

// P4.4

// byDefinition is a set's bytes as the chapter's Terms define them.
func byDefinition(l api.Lsns) []byte {
	b := binary.BigEndian.AppendUint64(nil, l.Low)
	b = binary.BigEndian.AppendUint16(b, uint16(len(l.In)))
	for _, n := range l.In {
		b = binary.BigEndian.AppendUint64(b, n)
	}
	return b
}

// notGot checks that no set is got of b.
func notGot(t *testing.T, name string, b []byte, want api.Errno) {
	t.Helper()
	if l, n, e := lsns.Get(b); e != want || n != 0 || !isNone(l) {
		t.Errorf("%s: %s, %d, %v, not %v", name, show(l), n, e, want)
	}
}

func TestPut(t *testing.T) {
	for _, c := range []struct {
		l    api.Lsns
		want string
	}{
		{set(1, 3), "\x00\x00\x00\x00\x00\x00\x00\x01\x00\x01\x00\x00\x00\x00\x00\x00\x00\x03"},
		{set(0), "\x00\x00\x00\x00\x00\x00\x00\x00\x00\x00"},
		{set(0x0102030405060708), "\x01\x02\x03\x04\x05\x06\x07\x08\x00\x00"},
		{set(top-2, top-1, top), "\xff\xff\xff\xff\xff\xff\xff\xfd\x00\x02\xff\xff\xff\xff\xff\xff\xff\xfe\xff\xff\xff\xff\xff\xff\xff\xff"},
	} {
		if b, e := lsns.Put(c.l); string(b) != c.want || e != api.OK {
			t.Errorf("%s: %x, %v", show(c.l), b, e)
		}
	}
	for _, l := range valid() {
		if b, e := lsns.Put(l); !bytes.Equal(b, byDefinition(l)) || e != api.OK {
			t.Errorf("%s: %d bytes, %v", show(l), len(b), e)
		}
	}
	for _, l := range invalid() {
		if b, e := lsns.Put(l); b != nil || e != api.ErrLsns {
			t.Errorf("%s, which is not valid: %d bytes, %v", show(l), len(b), e)
		}
	}
}

func TestGet(t *testing.T) {
	for _, l := range valid() {
		b := byDefinition(l)
		for _, behind := range [][]byte{nil, {0}, {9}, []byte("\xff\xff\xff\xff\xff\xff\xff\xff"), make([]byte, 9000)} {
			got, n, e := lsns.Get(slices.Concat(b, behind))
			if !alike(got, l) || n != len(b) || e != api.OK {
				t.Errorf("%s and %d bytes: %s, %d, %v", show(l), len(behind), show(got), n, e)
			}
		}
	}
}

func TestGetOfCutBytes(t *testing.T) {
	for _, l := range append(valid(), invalid()...) {
		if len(l.In) > 1000 {
			continue
		}
		b := byDefinition(l)
		for cut := range len(b) {
			if cut < 100 || cut > len(b)-20 {
				notGot(t, show(l)+" cut at "+strconv.Itoa(cut), b[:cut], api.ErrShort)
			}
		}
	}
	notGot(t, "nil", nil, api.ErrShort)
	notGot(t, "nothing", []byte{}, api.ErrShort)
}

func TestGetOfInvalidSets(t *testing.T) {
	for _, l := range invalid() {
		b := byDefinition(l)
		notGot(t, show(l), b, api.ErrLsns)
		notGot(t, show(l)+" and more", append(b, 1, 2, 3), api.ErrLsns)
	}
}

func TestGetOfStatedLengths(t *testing.T) {
	head := func(length uint16) []byte {
		return binary.BigEndian.AppendUint16(make([]byte, 8), length)
	}
	for _, length := range []uint16{1001, 1002, 1024, 1 << 15, math.MaxUint16} {
		name := strconv.Itoa(int(length))
		notGot(t, name, head(length), api.ErrLsns)
		notGot(t, name+" and some", append(head(length), make([]byte, 30)...), api.ErrLsns)
		notGot(t, name+" and all", append(head(length), make([]byte, 8*int(length))...), api.ErrLsns)
	}
	for _, length := range []uint16{1, 255, 256, 999, 1000} {
		name := strconv.Itoa(int(length))
		notGot(t, name, head(length), api.ErrShort)
		notGot(t, name+" and too few", append(head(length), make([]byte, 8*int(length)-1)...), api.ErrShort)
		notGot(t, name+" that are 0", append(head(length), make([]byte, 8*int(length))...), api.ErrLsns)
	}
	// Nine bytes are too few to state a length, whatever the ninth one is.
	notGot(t, "nine bytes", bytes.Repeat([]byte{0xff}, 9), api.ErrShort)
}

// TestGetIsStrict: what Get accepts is what Put makes, byte by byte (R7).
func TestGetIsStrict(t *testing.T) {
	rng := rand.New(rand.NewSource(44))
	accepted := 0
	for range 20000 {
		b := make([]byte, 10+8*rng.Intn(5))
		for i := range b {
			if i%8 > 5 || i > 7 && i%8 < 2 {
				b[i] = byte(rng.Intn(4))
			}
		}
		l, n, e := lsns.Get(b)
		if e != api.OK {
			continue
		}
		accepted++
		if again, e := lsns.Put(l); e != api.OK || !bytes.Equal(again, b[:n]) {
			t.Errorf("%x: %s", b, show(l))
		}
	}
	if accepted < 100 {
		t.Errorf("only %d were accepted", accepted)
	}
}

// P4.5

func TestNumbersOfResults(t *testing.T) {
	for _, l := range valid() {
		for _, n := range numbers(l) {
			added, e := lsns.Add(l, n)
			raised, _ := lsns.Raise(l, n)
			for _, x := range numbers(l, added, raised) {
				if e == api.OK && lsns.Has(added, x) != (x == n || isIn(l, x)) {
					t.Errorf("%s, %d added: %d", show(l), n, x)
				}
				if lsns.Has(raised, x) != (x <= n || isIn(l, x)) {
					t.Errorf("%s, raised to %d: %d", show(l), n, x)
				}
			}
		}
	}
}

func TestNumbersOfJoined(t *testing.T) {
	for _, a := range valid() {
		for _, b := range valid() {
			joined, e := lsns.Join(a, b)
			if e != api.OK {
				continue
			}
			for _, x := range numbers(a, b, joined) {
				if lsns.Has(joined, x) != (isIn(a, x) || isIn(b, x)) {
					t.Errorf("%s, %s: %d", show(a), show(b), x)
				}
			}
		}
	}
}

func TestOrderOfAdding(t *testing.T) {
	rng := rand.New(rand.NewSource(45))
	for round := range 200 {
		low := uint64(rng.Intn(10))
		given := make([]uint64, rng.Intn(40))
		for i := range given {
			given[i] = uint64(rng.Intn(60))
		}
		want := api.Lsns{Low: low}
		for n := low + 1; n < 60; n++ {
			if slices.Contains(given, n) {
				want.In = append(want.In, n)
			}
		}
		for range 5 {
			rng.Shuffle(len(given), func(i, j int) { given[i], given[j] = given[j], given[i] })
			l := api.Lsns{Low: low}
			for _, n := range given {
				var e api.Errno
				if l, e = lsns.Add(l, n); e != api.OK {
					t.Fatalf("round %d: %d to %s: %v", round, n, show(l), e)
				}
			}
			wants(t, "round "+strconv.Itoa(round), l, api.OK, want)
		}
	}
}

func TestSameBytesOfSameSets(t *testing.T) {
	all := valid()
	coded := make([][]byte, len(all))
	for i, l := range all {
		coded[i], _ = lsns.Put(l)
	}
	for i, a := range all {
		for j, b := range all {
			if bytes.Equal(coded[i], coded[j]) != lsns.Same(a, b) {
				t.Errorf("%s, %s", show(a), show(b))
			}
		}
	}
}

// R5

// roomy is a copy of a set whose In has spare capacity, as much as it has numbers and a few more, and that capacity as a whole.
func roomy(l api.Lsns) (api.Lsns, []uint64) {
	whole := make([]uint64, 2*len(l.In)+4)
	copy(whole, l.In)
	for i := range whole[len(l.In):] {
		whole[len(l.In)+i] = 7777
	}
	return api.Lsns{Low: l.Low, In: whole[:len(l.In)]}, whole
}

// overwritten writes over a result, its spare capacity included.
func overwritten(l api.Lsns) {
	all := l.In[:cap(l.In)]
	for i := range all {
		all[i] = 8888
	}
}

func TestResultsShareNothing(t *testing.T) {
	calls := []struct {
		name string
		call func(l, other api.Lsns) (api.Lsns, api.Errno)
	}{
		{"Add of one ahead", func(l, _ api.Lsns) (api.Lsns, api.Errno) { return lsns.Add(l, l.Low+1) }},
		{"Add of one within", func(l, _ api.Lsns) (api.Lsns, api.Errno) { return lsns.Add(l, l.Low+5) }},
		{"Add of one behind", func(l, _ api.Lsns) (api.Lsns, api.Errno) { return lsns.Add(l, l.Low+3000) }},
		{"Add of one up to Low", func(l, _ api.Lsns) (api.Lsns, api.Errno) { return lsns.Add(l, l.Low) }},
		{"Add of one that is there", func(l, _ api.Lsns) (api.Lsns, api.Errno) { return lsns.Add(l, lsns.Most(l)) }},
		{"Raise to Low", func(l, _ api.Lsns) (api.Lsns, api.Errno) { return lsns.Raise(l, 0) }},
		{"Raise", func(l, _ api.Lsns) (api.Lsns, api.Errno) { return lsns.Raise(l, l.Low+5) }},
		{"Join", lsns.Join},
		{"Join, turned", func(l, other api.Lsns) (api.Lsns, api.Errno) { return lsns.Join(other, l) }},
	}
	sets := []api.Lsns{set(3), set(3, 5), set(3, 5, 7), set(3, 5, 7, 9, 11), even(3, 400)}
	others := []api.Lsns{set(3), set(3, 4), set(3, 5), set(3, 6, 10, 4000), even(3, 400)}
	for _, c := range calls {
		for _, s := range sets {
			for _, o := range others {
				l, all := roomy(s)
				other, allOther := roomy(o)
				before, beforeOther := slices.Clone(all), slices.Clone(allOther)
				got, e := c.call(l, other)
				if e != api.OK {
					t.Fatalf("%s, %s, %s: %v", c.name, show(s), show(o), e)
				}
				overwritten(got)
				if !slices.Equal(all, before) || !slices.Equal(allOther, beforeOther) {
					t.Errorf("%s, %s, %s: what was handed in changes", c.name, show(s), show(o))
				}
			}
		}
	}
}

func TestBytesShareNothing(t *testing.T) {
	l, all := roomy(set(3, 5, 7))
	before := slices.Clone(all)
	b, _ := lsns.Put(l)
	again := bytes.Clone(b)
	got, n, _ := lsns.Get(b)
	overwritten(got)
	if !bytes.Equal(b, again) || n != len(b) || !slices.Equal(all, before) {
		t.Errorf("%x, %v", b, all)
	}
	got, _, _ = lsns.Get(b)
	for i := range b {
		b[i] = '!'
	}
	if !alike(got, l) {
		t.Errorf("what was got follows its bytes: %s", show(got))
	}
}
