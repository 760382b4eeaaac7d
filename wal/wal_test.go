package wal_test

import (
	"encoding/binary"
	"hash/crc32"
	"math"
	"math/rand"
	"slices"
	"strconv"
	"strings"
	"testing"

	"lockkeeper/api"
	"lockkeeper/tape"
	"lockkeeper/wal"
)

const (
	overhead = 21
	maxLsn   = uint64(1) << 48
	maxData  = 262136
)

func wants(t *testing.T, name string, got, want api.Errno) {
	t.Helper()
	if got != want {
		t.Errorf("%s: %v, not %v", name, got, want)
	}
}

// none returns what is no object.
func none() map[string]*wal.Wal { return map[string]*wal.Wal{"nil": nil, "zero": {}} }

// plainSealed, plainRecord and plainWritten are the Terms of layers 2 and 7 and of the chapter, with the library's checksum.
func plainSealed(s string) string {
	sum := crc32.Checksum([]byte(s), crc32.MakeTable(crc32.Castagnoli))
	return s + string(binary.LittleEndian.AppendUint32(nil, sum))
}

// plainRecord is a record of layer 7, also one that a log has not.
func plainRecord(kind uint8, data string) string {
	header := binary.BigEndian.AppendUint32([]byte{kind}, uint32(len(data)))
	return plainSealed(string(header)) + plainSealed(data)
}

func plainNumber(n uint64) string { return string(binary.BigEndian.AppendUint64(nil, n)) }

func plainWritten(l ...api.Entry) string {
	var all strings.Builder
	for _, r := range l {
		all.WriteString(plainRecord(r.Kind, plainNumber(r.N)+r.Data))
	}
	return all.String()
}

// plain is a log as the chapter's Terms define it.
type plain struct {
	room         int
	records      []api.Entry
	last, stable uint64
}

func (p *plain) copied() *plain {
	c := *p
	c.records = slices.Clone(p.records)
	return &c
}

// size is the number of bytes of the records up to a number.
func (p *plain) size(to uint64) int {
	size := 0
	for _, r := range p.records {
		if r.N <= to {
			size += overhead + len(r.Data)
		}
	}
	return size
}

func (p *plain) free() int { return p.room - p.size(math.MaxUint64) }

func (p *plain) append(kind uint8, data string) (uint64, api.Errno) {
	switch {
	case len(data) > maxData:
		return 0, api.ErrLong
	case p.free() < overhead+len(data) || p.last == maxLsn:
		return 0, api.ErrFull
	}
	p.last++
	p.records = append(p.records, api.Entry{N: p.last, Kind: kind, Data: data})
	return p.last, api.OK
}

func (p *plain) force() { p.stable = p.last }

func (p *plain) first() uint64 {
	for _, r := range p.records {
		return r.N
	}
	return 0
}

func (p *plain) get(n uint64) (api.Entry, api.Errno) {
	for _, r := range p.records {
		if r.N == n {
			return r, api.OK
		}
	}
	return api.Entry{}, api.ErrNone
}

func (p *plain) from(n uint64) []api.Entry {
	var l []api.Entry
	for _, r := range p.records {
		if r.N >= n {
			l = append(l, r)
		}
	}
	return l
}

func (p *plain) trim(n uint64) api.Errno {
	if n > p.stable+1 {
		return api.ErrState
	}
	p.records = p.from(n)
	return api.OK
}

// crash keeps so many bytes that are not durable, and opens the log again.
func (p *plain) crash(keep int, least uint64) {
	kept := p.size(p.stable) + max(keep, 0)
	for len(p.records) > 0 && p.size(p.last) > kept {
		p.records = p.records[:len(p.records)-1]
		p.last--
	}
	if len(p.records) == 0 {
		p.last = least
	}
	p.stable = p.last
}

// numbers are those that the log has, had or may have, and others.
func (p *plain) numbers() []uint64 {
	all := []uint64{0, 1, 2, p.first() - 2, p.first() - 1, p.first(), p.last + 1, p.last + 2, p.stable, p.stable + 1, p.stable + 2,
		maxLsn - 1, maxLsn, maxLsn + 1, 1 << 32, 1<<32 + p.last, 1 << 63, 1<<63 + p.last, math.MaxUint64 - 1, math.MaxUint64}
	for _, r := range p.records {
		all = append(all, r.N)
	}
	return all
}

// same checks all that can be seen of a log and of its tape.
func (p *plain) same(t *testing.T, name string, w *wal.Wal, on *tape.Tape) {
	t.Helper()
	if w.Last() != p.last || w.Stable() != p.stable || w.First() != p.first() || w.Room() != p.free() {
		t.Fatalf("%s: last %d, stable %d, first %d, room %d, not %d, %d, %d, %d", name,
			w.Last(), w.Stable(), w.First(), w.Room(), p.last, p.stable, p.first(), p.free())
	}
	for _, n := range p.numbers() {
		if got, want := w.From(n), p.from(n); !slices.Equal(got, want) {
			t.Fatalf("%s: From(%d): %s, not %s", name, n, told(got...), told(want...))
		}
		got, e := w.Get(n)
		if want, f := p.get(n); got != want || e != f {
			t.Fatalf("%s: Get(%d): %s, %v, not %s, %v", name, n, told(got), e, told(want), f)
		}
	}
	bytes, e := on.Read(on.Base(), on.End())
	if bytes != plainWritten(p.records...) || e != api.OK {
		t.Fatalf("%s: the tape has %.300x, %v, not %.300x", name, bytes, e, plainWritten(p.records...))
	}
	if sure := int(on.Sure() - on.Base()); sure != p.size(p.stable) {
		t.Fatalf("%s: %d bytes are durable, not %d", name, sure, p.size(p.stable))
	}
}

// opened opens a tape, which must have a log.
func opened(t *testing.T, name string, on *tape.Tape, least uint64) *wal.Wal {
	t.Helper()
	w, e := wal.Open(on, least)
	if w == nil || e != api.OK {
		t.Fatalf("%s: Open: %v", name, e)
	}
	return w
}

// appends appends a record to a log and to what it must be like.
func appends(t *testing.T, name string, w *wal.Wal, p *plain, kind uint8, data string) {
	t.Helper()
	n, e := w.Append(kind, data)
	if m, f := p.append(kind, data); n != m || e != f {
		t.Fatalf("%s: Append: %d, %v, not %d, %v", name, n, e, m, f)
	}
}

// tapeOf returns a tape of some bytes, some of which were dropped, and some of which are not durable.
func tapeOf(dropped, durable, rest string, room int) *tape.Tape {
	on := tape.New(max(room, len(dropped)) + len(durable) + len(rest))
	on.Append(dropped)
	on.Force()
	on.Drop(uint64(len(dropped)))
	on.Append(durable)
	on.Force()
	on.Append(rest)
	return on
}

// refused checks that a tape is none of a log, and stays as it is.
func refused(t *testing.T, name string, on *tape.Tape, least uint64) {
	t.Helper()
	before := on.Copy()
	w, e := wal.Open(on, least)
	if w != nil || e != api.ErrBad {
		t.Errorf("%s: Open: %v, not %v", name, e, api.ErrBad)
	}
	sameTape(t, name, on, before)
}

func sameTape(t *testing.T, name string, got, want *tape.Tape) {
	t.Helper()
	if got.Base() != want.Base() || got.Sure() != want.Sure() || got.End() != want.End() || got.Room() != want.Room() {
		t.Errorf("%s: the tape stands at %d, %d, %d, not %d, %d, %d", name,
			got.Base(), got.Sure(), got.End(), want.Base(), want.Sure(), want.End())
	}
	s, e := got.Read(got.Base(), got.End())
	if r, f := want.Read(want.Base(), want.End()); s != r || e != f {
		t.Errorf("%s: the tape has %x, not %x", name, s, r)
	}
}

// entries returns records from a number on, with some Data each.
func entries(from uint64, data ...string) []api.Entry {
	var l []api.Entry
	for i, d := range data {
		l = append(l, api.Entry{N: from + uint64(i), Kind: uint8(200 + i), Data: d})
	}
	return l
}

// told names records, of whose Data only the beginning.
func told(l ...api.Entry) string {
	var all []string
	for _, r := range l {
		all = append(all, numbers(r.N, uint64(r.Kind))+" "+strconv.Quote(r.Data[:min(len(r.Data), 20)]))
	}
	return strings.Join(all, ", ")
}

func numbers(l ...uint64) string {
	var all []string
	for _, n := range l {
		all = append(all, strconv.FormatUint(n, 10))
	}
	return strings.Join(all, " ")
}

// P8.1

func TestOpenOfNothing(t *testing.T) {
	for _, least := range []uint64{0, 1, 7, 1 << 32, maxLsn - 1, maxLsn} {
		on := tape.New(100)
		p := plain{room: 100, last: least, stable: least}
		p.same(t, numbers(least), opened(t, numbers(least), on, least), on)
		on = tapeOf("dropped", "", "", 100)
		p.same(t, numbers(least)+" behind the base", opened(t, numbers(least), on, least), on)
	}
	for _, least := range []uint64{maxLsn + 1, maxLsn + 2, 2 * maxLsn, 1 << 63, math.MaxUint64} {
		refused(t, numbers(least), tape.New(100), least)
	}
	opened(t, "a tape without room", tape.New(0), 3)
}

func TestOpenOfNoTape(t *testing.T) {
	for name, on := range map[string]*tape.Tape{"nil": nil, "zero": {}} {
		for _, least := range []uint64{0, 1, maxLsn, maxLsn + 1, math.MaxUint64} {
			w, e := wal.Open(on, least)
			wants(t, name, e, api.ErrNil)
			if w != nil {
				t.Error(name, "has a log")
			}
		}
	}
}

// TestOpenOfRecords: what is there is the log, wherever it begins, and however much of it is durable.
func TestOpenOfRecords(t *testing.T) {
	for _, first := range []uint64{1, 2, 255, 1<<32 - 2, maxLsn - 3, maxLsn - 2} {
		l := entries(first, "", "ab", strings.Repeat("\x00\xff", 40))
		for count := 1; count <= len(l); count++ {
			all := plainWritten(l[:count]...)
			for durable := range len(all) + 1 {
				name := numbers(first, uint64(count), uint64(durable))
				on := tapeOf("x", all[:durable], all[durable:], 50)
				last := first + uint64(count) - 1
				p := plain{room: on.Room() + len(all), records: l[:count], last: last, stable: last}
				w := opened(t, name, on, 0)
				p.same(t, name, w, on)
				on.Crash(0)
				p.same(t, name+" and a crash", opened(t, name, on, last), on)
			}
		}
	}
}

// TestOpenWithLeast: the last number is not below least.
func TestOpenWithLeast(t *testing.T) {
	for _, last := range []uint64{3, 1 << 20, maxLsn - 1, maxLsn} {
		l := entries(last-2, "a", "b", "c")
		for _, least := range []uint64{0, 1, last - 2, last - 1, last} {
			on := tapeOf("", plainWritten(l...), "", 100)
			p := plain{room: on.Room() + len(plainWritten(l...)), records: l, last: last, stable: last}
			p.same(t, numbers(last, least), opened(t, numbers(last, least), on, least), on)
		}
		for _, least := range []uint64{last + 1, last + 2, 2 * last, maxLsn + 1, 1 << 63, math.MaxUint64} {
			refused(t, numbers(last, least), tapeOf("", plainWritten(l...), "", 100), least)
			refused(t, numbers(last, least), tapeOf("", "", plainWritten(l...), 100), least)
		}
	}
}

// TestOpenOfTornRest: what is not complete is cut off, and all before it is durable.
func TestOpenOfTornRest(t *testing.T) {
	l := entries(5, "a", "", "cde", strings.Repeat("f", 30))
	all := plainWritten(l...)
	for end := range len(all) {
		for _, durable := range []int{0, end / 2, end} {
			name := numbers(uint64(end), uint64(durable))
			on := tapeOf("xy", all[:durable], all[durable:end], 0)
			p := plain{room: end + on.Room(), last: 3}
			for i, r := range l {
				if size := len(plainWritten(l[:i+1]...)); size <= end {
					p.records, p.last = l[:i+1], r.N
				}
			}
			p.stable = p.last
			w := opened(t, name, on, 3)
			p.same(t, name, w, on)
			on.Crash(math.MaxInt)
			p.same(t, name+" and a crash", opened(t, name, on, 3), on)
		}
	}
}

// TestOpenOfTornRestWithLeast: a record that is not complete does not count.
func TestOpenOfTornRestWithLeast(t *testing.T) {
	all := plainWritten(entries(5, "a", "b")...)
	torn := all[:len(all)-1]
	refused(t, "the last one is torn", tapeOf("", torn, "", 0), 6)
	refused(t, "the last one is torn", tapeOf("", "", torn, 0), 6)
	opened(t, "the one before it", tapeOf("", torn, "", 0), 5)
	if w := opened(t, "only a torn one", tapeOf("", torn[:21], "", 0), 9); w.Last() != 9 || w.First() != 0 {
		t.Error(w.Last(), w.First())
	}
	refused(t, "only a torn one", tapeOf("", torn[:21], "", 0), maxLsn+1)
}

func TestOpenOfBadRest(t *testing.T) {
	l := entries(5, "a", "", "cde")
	all := plainWritten(l...)
	for i := range all {
		b := []byte(all)
		b[i] ^= 1 << (i % 8)
		refused(t, "a bit of byte "+strconv.Itoa(i), tapeOf("x", string(b), "", 10), 0)
		refused(t, "a bit of byte "+strconv.Itoa(i), tapeOf("", "", string(b), 10), 0)
	}
	for _, bad := range []string{strings.Repeat("\x00", 9), "123456789", "1234567890", strings.Repeat("z", 300)} {
		refused(t, "other bytes alone", tapeOf("", bad, "", 10), 0)
		refused(t, "other bytes", tapeOf("", all, bad, 10), 0)
	}
	opened(t, "eight other bytes", tapeOf("", all, "12345678", 10), 0)
}

// TestOpenOfOtherRecords: each record must begin with a number that one of a log may have.
func TestOpenOfOtherRecords(t *testing.T) {
	before, after := plainWritten(entries(1, "a", "b")...), plainWritten(entries(4, "d")...)
	var data []string
	for size := range 8 {
		data = append(data, plainNumber(3)[:size], plainNumber(3)[8-size:], strings.Repeat("\x01", size))
	}
	for _, n := range []uint64{0, maxLsn + 1, maxLsn + 3, 2 * maxLsn, 1 << 63, math.MaxUint64} {
		data = append(data, plainNumber(n), plainNumber(n)+"c")
	}
	for _, d := range data {
		name := strconv.Quote(d)
		other := plainRecord(3, d)
		refused(t, name, tapeOf("", other, "", 10), 0)
		refused(t, name, tapeOf("", "", other, 10), 0)
		refused(t, name+" as the last one", tapeOf("", before, other, 10), 0)
		refused(t, name+" as the first one", tapeOf("", other, after, 10), 0)
		refused(t, name+" in the middle", tapeOf("", before, other+after, 10), 0)
		refused(t, name+" and a torn one", tapeOf("", other, "torn", 10), 0)
	}
	w := opened(t, "the right one", tapeOf("", before, plainRecord(9, plainNumber(3)+"c")+after, 10), 0)
	if r, e := w.Get(3); r != (api.Entry{N: 3, Kind: 9, Data: "c"}) || e != api.OK || w.Last() != 4 {
		t.Error(r, e, w.Last())
	}
}

// TestOpenOfOtherNumbers: each number is one more than the one before it.
func TestOpenOfOtherNumbers(t *testing.T) {
	for _, l := range [][]uint64{
		{1, 1}, {1, 3}, {2, 1}, {1, 2, 4}, {1, 2, 2}, {1, 2, 1}, {1, 3, 4}, {5, 4, 5}, {5, 7, 6}, {1, maxLsn}, {maxLsn, 1},
		{maxLsn, maxLsn}, {maxLsn, maxLsn + 1}, {0, 1}, {1, 0}, {math.MaxUint64, 0}, {math.MaxUint64, 1}, {3, 4, 5, 6, 8}, {1, 1<<32 + 2},
	} {
		var all string
		for _, n := range l {
			all += plainWritten(api.Entry{N: n, Data: "x"})
		}
		refused(t, numbers(l...), tapeOf("", all, "", 10), 0)
		refused(t, numbers(l...)+" and a torn one", tapeOf("", all, "torn", 10), 0)
		refused(t, numbers(l...), tapeOf("y", "", all, 10), l[len(l)-1])
	}
}

func TestOpenOfLongRecord(t *testing.T) {
	l := entries(1, strings.Repeat("x", maxData), "b")
	on := tapeOf("", plainWritten(l...), "", 0)
	p := plain{room: on.Room() + len(plainWritten(l...)), records: l, last: 2, stable: 2}
	p.same(t, "long", opened(t, "long", on, 2), on)
}

// P8.2

func TestAppend(t *testing.T) {
	for _, least := range []uint64{0, 1, 7, 1<<32 - 3, maxLsn - 10} {
		on := tape.New(2000)
		w := opened(t, numbers(least), on, least)
		p := &plain{room: 2000, last: least, stable: least}
		for i, data := range []string{"a", "", "\x00", "a", "\xff\x80", strings.Repeat("x", 500), "", "e"} {
			name := numbers(least, uint64(i))
			appends(t, name, w, p, uint8(i*37), data)
			p.same(t, name, w, on)
		}
	}
}

func TestAppendOfEachKind(t *testing.T) {
	on := tape.New(256 * 22)
	w := opened(t, "kinds", on, 0)
	p := &plain{room: 256 * 22}
	for kind := range 256 {
		appends(t, "kinds", w, p, uint8(kind), string(rune(kind%128)))
	}
	p.same(t, "kinds", w, on)
	wants(t, "Force", w.Force(), api.OK)
	p.force()
	p.same(t, "kinds, opened again", opened(t, "kinds", on, 256), on)
}

func TestAppendOfMuch(t *testing.T) {
	const room = 600000
	on := tape.New(room)
	w := opened(t, "much", on, 0)
	p := &plain{room: room}
	for _, size := range []int{255, 256, maxData + 1, maxData, maxData + 8, maxData + 9, maxData - 1, maxData, 65536} {
		appends(t, strconv.Itoa(size), w, p, 1, strings.Repeat("m", size))
		p.same(t, strconv.Itoa(size), w, on)
	}
	// Too long is said first, also where there is no room.
	appends(t, "too long", w, p, 1, strings.Repeat("m", maxData+1))
	if n, e := w.Append(1, strings.Repeat("m", maxData+1)); n != 0 || e != api.ErrLong {
		t.Errorf("too long, and no room: %d, %v", n, e)
	}
	small := opened(t, "small", tape.New(0), maxLsn)
	if n, e := small.Append(1, strings.Repeat("m", maxData+1)); n != 0 || e != api.ErrLong {
		t.Errorf("too long, and no number: %d, %v", n, e)
	}
	p.same(t, "after too much", w, on)
}

func TestForce(t *testing.T) {
	on := tape.New(1000)
	w := opened(t, "new", on, 4)
	p := &plain{room: 1000, last: 4, stable: 4}
	wants(t, "Force of nothing", w.Force(), api.OK)
	p.same(t, "nothing", w, on)
	for i, data := range []string{"a", "bc", "", "def"} {
		name := strconv.Itoa(i)
		for range i {
			appends(t, name, w, p, 2, data)
			p.same(t, name+" appended", w, on)
		}
		for range 2 {
			wants(t, name, w.Force(), api.OK)
			p.force()
			p.same(t, name+" forced", w, on)
		}
	}
	on.Crash(0)
	p.same(t, "after a crash", opened(t, "after a crash", on, p.stable), on)
}

func TestLastStaysWhenItsRecordIsGone(t *testing.T) {
	on := tape.New(200)
	w := opened(t, "new", on, 0)
	p := &plain{room: 200}
	appends(t, "one", w, p, 1, "a")
	appends(t, "two", w, p, 1, "b")
	wants(t, "Force", w.Force(), api.OK)
	p.force()
	wants(t, "Trim", w.Trim(3), p.trim(3))
	p.same(t, "without records", w, on)
	if w.Last() != 2 || w.Stable() != 2 || w.First() != 0 || w.Room() != 200 {
		t.Error(w.Last(), w.Stable(), w.First(), w.Room())
	}
	appends(t, "three", w, p, 1, "c")
	p.same(t, "with one", w, on)
	if w.First() != 3 {
		t.Error(w.First())
	}
}

func TestLogsAreApart(t *testing.T) {
	a, b := tape.New(100), tape.New(100)
	v, w := opened(t, "a", a, 0), opened(t, "b", b, 5)
	p, q := &plain{room: 100}, &plain{room: 100, last: 5, stable: 5}
	appends(t, "a", v, p, 1, "x")
	wants(t, "Force", v.Force(), api.OK)
	p.force()
	q.same(t, "the other one", w, b)
	appends(t, "b", w, q, 2, "yz")
	p.same(t, "the one", v, a)
	q.same(t, "the other one", w, b)
}

func TestNoObject(t *testing.T) {
	for name, w := range none() {
		for _, data := range []string{"", "a", strings.Repeat("a", maxData+1)} {
			n, e := w.Append(1, data)
			wants(t, name+": Append", e, api.ErrNil)
			if n != 0 {
				t.Error(name, "has a number", n)
			}
		}
		wants(t, name+": Force", w.Force(), api.ErrNil)
		for _, n := range []uint64{0, 1, 2, maxLsn, math.MaxUint64} {
			wants(t, name+": Trim", w.Trim(n), api.ErrNil)
			if r, e := w.Get(n); r != (api.Entry{}) || e != api.ErrNil {
				t.Errorf("%s: Get(%d): %v, %v", name, n, r, e)
			}
			if l := w.From(n); len(l) != 0 {
				t.Errorf("%s: From(%d): %v", name, n, l)
			}
		}
		if w.Last() != 0 || w.Stable() != 0 || w.First() != 0 || w.Room() != 0 {
			t.Error(name, w.Last(), w.Stable(), w.First(), w.Room())
		}
		// It does not become an object by what was done to it.
		wants(t, name+": Force at last", w.Force(), api.ErrNil)
	}
}

// P8.3

// logs returns logs of all small shapes: so many records trimmed, stable, and not stable.
func logs(t *testing.T, least uint64, each func(name string, w *wal.Wal, p *plain, on *tape.Tape)) {
	t.Helper()
	const most, room = 4, 200
	for trimmed := range most {
		for stable := range most {
			for unstable := range most {
				name := "after " + numbers(least, uint64(trimmed), uint64(stable), uint64(unstable))
				on := tape.New(room)
				w := opened(t, name, on, least)
				p := &plain{room: room, last: least, stable: least}
				for i := range trimmed + stable {
					appends(t, name, w, p, uint8(i), strings.Repeat("s", i))
				}
				wants(t, name, w.Force(), api.OK)
				p.force()
				wants(t, name, w.Trim(least+uint64(trimmed)+1), p.trim(least+uint64(trimmed)+1))
				for i := range unstable {
					appends(t, name, w, p, uint8(100+i), strings.Repeat("u", i))
				}
				each(name, w, p, on)
			}
		}
	}
}

func TestGetAndFrom(t *testing.T) {
	for _, least := range []uint64{0, 1, 70, maxLsn - 9} {
		logs(t, least, func(name string, w *wal.Wal, p *plain, on *tape.Tape) {
			p.same(t, name, w, on)
			// What was asked for changed nothing.
			p.same(t, name+", asked", w, on)
		})
	}
}

// TestFromReturnsNewMemory: what is done to a result, also to the room behind it, the log does not notice.
func TestFromReturnsNewMemory(t *testing.T) {
	on := tape.New(1000)
	w := opened(t, "new", on, 0)
	p := &plain{room: 1000}
	for i := range 5 {
		appends(t, "some", w, p, uint8(i), strings.Repeat("d", i))
	}
	for n := range uint64(7) {
		l, m := w.From(n), w.From(n)
		want := p.from(n)
		whole := l[:cap(l)]
		for i := range whole {
			whole[i] = api.Entry{N: 99, Kind: 9, Data: "other"}
		}
		if !slices.Equal(m, want) {
			t.Errorf("From(%d): the other result is %s, not %s", n, told(m...), told(want...))
		}
		p.same(t, numbers(n), w, on)
		appends(t, "more", w, p, 7, "more")
		if !slices.Equal(m, want) {
			t.Errorf("From(%d): the result became %s, and was %s", n, told(m...), told(want...))
		}
		p.same(t, numbers(n)+" and more", w, on)
	}
	wants(t, "Force", w.Force(), api.OK)
	p.force()
	l := w.From(4)
	want := p.from(4)
	wants(t, "Trim", w.Trim(6), p.trim(6))
	appends(t, "more", w, p, 7, "more")
	if !slices.Equal(l, want) {
		t.Errorf("the result became %s, and was %s", told(l...), told(want...))
	}
}

// P8.4

func TestTrim(t *testing.T) {
	for _, least := range []uint64{0, 1, 70, maxLsn - 9} {
		logs(t, least, func(name string, w *wal.Wal, p *plain, on *tape.Tape) {
			for _, n := range p.numbers() {
				copied := on.Copy()
				q := p.copied()
				// A copy of the tape has the same log, once what is not stable is appended again.
				copied.Crash(0)
				w := opened(t, name, copied, p.stable)
				q.crash(0, p.stable)
				for _, r := range p.records[len(q.records):] {
					appends(t, name, w, q, r.Kind, r.Data)
				}
				name := name + " trimmed at " + numbers(n)
				wants(t, name, w.Trim(n), q.trim(n))
				q.same(t, name, w, copied)
				appends(t, name, w, q, 7, "behind")
				q.same(t, name+", with another one", w, copied)
				copied.Crash(0)
				q.crash(0, p.stable)
				q.same(t, name+", after a crash", opened(t, name, copied, p.stable), copied)
			}
		})
	}
}

// TestTrimAgain: what is gone stays so.
func TestTrimAgain(t *testing.T) {
	on := tape.New(1000)
	w := opened(t, "new", on, 0)
	p := &plain{room: 1000}
	for i := range 9 {
		appends(t, "some", w, p, uint8(i), strings.Repeat("d", i))
	}
	wants(t, "Trim of what is not stable", w.Trim(2), api.ErrState)
	wants(t, "Trim of nothing", w.Trim(1), api.OK)
	p.same(t, "not trimmed", w, on)
	wants(t, "Force", w.Force(), api.OK)
	p.force()
	for _, n := range []uint64{0, 1, 2, 2, 1, 5, 3, 4, 5, 6, 11, 9, 10, 11, 10, 0} {
		wants(t, numbers(n), w.Trim(n), p.trim(n))
		p.same(t, numbers(n), w, on)
		p.same(t, numbers(n)+" opened again", opened(t, numbers(n), on.Copy(), 9), on)
	}
}

// TestMuchIsTrimmed: a log goes on in the room that was trimmed.
func TestMuchIsTrimmed(t *testing.T) {
	const room = 3 * (overhead + 10)
	on := tape.New(room)
	w := opened(t, "new", on, 0)
	p := &plain{room: room}
	for i := range uint64(3000) {
		appends(t, numbers(i), w, p, uint8(i), "0123456789")
		if i%3 == 2 {
			appends(t, numbers(i), w, p, 0, "")
			wants(t, numbers(i), w.Force(), api.OK)
			p.force()
			wants(t, numbers(i), w.Trim(i+1), p.trim(i+1))
			wants(t, numbers(i), w.Trim(i+2), p.trim(i+2))
			p.same(t, numbers(i), w, on)
		}
	}
	if w.Last() != 3000 {
		t.Error(w.Last())
	}
}

// P8.5

func TestRoom(t *testing.T) {
	for _, room := range []int{0, 1, 20, 21, 22, 100, math.MaxInt32} {
		on := tape.New(room)
		w := opened(t, strconv.Itoa(room), on, 0)
		if w.Room() != room {
			t.Errorf("%d: %d", room, w.Room())
		}
		w.Append(1, "a")
		if w.Room() != on.Room() {
			t.Errorf("%d: %d, not %d", room, w.Room(), on.Room())
		}
	}
}

func TestCost(t *testing.T) {
	for _, c := range [][2]int{
		{math.MinInt, 21}, {math.MinInt + 1, 21}, {math.MinInt32, 21}, {-22, 21}, {-21, 21}, {-5, 21}, {-1, 21}, {0, 21}, {1, 22}, {2, 23},
		{255, 276}, {maxData, 262157}, {maxData + 1, 262158}, {math.MaxInt32 - 21, math.MaxInt32},
	} {
		if got := wal.Cost(c[0]); got != c[1] {
			t.Errorf("Cost(%d): %d, not %d", c[0], got, c[1])
		}
	}
}

// TestCostIsWhatARecordTakes: the room is less by it after each Append.
func TestCostIsWhatARecordTakes(t *testing.T) {
	w := opened(t, "new", tape.New(1<<20), 0)
	for _, size := range []int{0, 1, 2, 7, 8, 9, 255, 256, 65535, 65536, maxData} {
		before := w.Room()
		if _, e := w.Append(1, strings.Repeat("c", size)); e != api.OK || before-w.Room() != wal.Cost(size) {
			t.Errorf("%d: %v, %d, not %d", size, e, before-w.Room(), wal.Cost(size))
		}
	}
}

// P8.6

// TestCrash: every record that is stable is there, and of the others the first ones.
func TestCrash(t *testing.T) {
	for _, least := range []uint64{0, 70, maxLsn - 9} {
		logs(t, least, func(name string, w *wal.Wal, p *plain, on *tape.Tape) {
			unsure := p.size(p.last) - p.size(p.stable)
			keeps := []int{-1, math.MinInt, unsure + 1, math.MaxInt}
			for keep := range unsure + 1 {
				keeps = append(keeps, keep)
			}
			for _, keep := range keeps {
				for _, least := range leasts(p.stable) {
					name := name + ", of " + strconv.Itoa(keep) + " with " + numbers(least)
					crashed, q := on.Copy(), p.copied()
					crashed.Crash(keep)
					q.crash(min(keep, unsure), least)
					w := opened(t, name, crashed, least)
					q.same(t, name, w, crashed)
				}
			}
		})
	}
}

// leasts are some numbers up to the stable one.
func leasts(stable uint64) []uint64 {
	l := []uint64{0, stable / 2, stable}
	for i := range min(stable, 5) {
		l = append(l, stable-i)
	}
	return l
}

// TestOpenWithMoreThanIsStable: a record that was not kept is missed.
func TestOpenWithMoreThanIsStable(t *testing.T) {
	on := tape.New(100)
	w := opened(t, "new", on, 0)
	for range 3 {
		w.Append(1, "a")
	}
	on.Crash(44)
	refused(t, "three of two", on, 3)
	if w := opened(t, "two of two", on, 2); w.Last() != 2 || w.Stable() != 2 || w.First() != 1 {
		t.Error(w.Last(), w.Stable(), w.First())
	}
}

// TestLogThatIsNotOpenedAgain: its calls end.
func TestLogThatIsNotOpenedAgain(t *testing.T) {
	for _, least := range []uint64{0, maxLsn - 9} {
		logs(t, least, func(name string, w *wal.Wal, p *plain, on *tape.Tape) {
			calls := []func(n uint64){
				func(n uint64) { w.Get(n) }, func(n uint64) { w.From(n) }, func(n uint64) { w.Trim(n) },
				func(uint64) { w.Append(1, "after") }, func(uint64) { w.Append(1, strings.Repeat("z", 300)) },
				func(uint64) { w.Force() }, func(uint64) { on.Crash(0) },
				func(uint64) { w.Last(); w.Stable(); w.First(); w.Room() },
			}
			on.Crash(5)
			rng := rand.New(rand.NewSource(86))
			for range 60 {
				all := p.numbers()
				calls[rng.Intn(len(calls))](all[rng.Intn(len(all))])
			}
		})
	}
}

// TestTwoLogsOnOneTape: nothing is promised of the older one but that its calls end.
func TestTwoLogsOnOneTape(t *testing.T) {
	on := tape.New(200)
	old := opened(t, "the old one", on, 0)
	for range 5 {
		old.Append(1, "a")
	}
	old.Force()
	w := opened(t, "the new one", on, 0)
	wants(t, "Trim", w.Trim(6), api.OK)
	for n := range uint64(8) {
		old.Trim(n)
		old.Get(n)
		old.From(n)
	}
	old.Append(1, "b")
	old.Force()
}

// P8.7

// TestFull: exactly if there is less room than the record costs.
func TestFull(t *testing.T) {
	for size := range 5 {
		for room := range 3 * (overhead + 5) {
			name := numbers(uint64(size), uint64(room))
			on := tape.New(room)
			w := opened(t, name, on, 0)
			p := &plain{room: room}
			for range 4 {
				full := w.Room() < wal.Cost(size)
				n, e := w.Append(1, strings.Repeat("f", size))
				if full != (e == api.ErrFull) || full != (n == 0) {
					t.Errorf("%s: %d, %v", name, n, e)
				}
				p.append(1, strings.Repeat("f", size))
				p.same(t, name, w, on)
			}
		}
	}
}

// TestNumbersAreExhausted: there is none above the greatest, whatever is trimmed.
func TestNumbersAreExhausted(t *testing.T) {
	for below := range uint64(4) {
		name := numbers(below)
		on := tape.New(1000)
		w := opened(t, name, on, maxLsn-below)
		p := &plain{room: 1000, last: maxLsn - below, stable: maxLsn - below}
		for i := range below + 2 {
			n, e := w.Append(1, "a")
			if i < below && (n != maxLsn-below+i+1 || e != api.OK) || i >= below && (n != 0 || e != api.ErrFull) {
				t.Errorf("%s: %d, %v", name, n, e)
			}
			p.append(1, "a")
			p.same(t, name, w, on)
		}
		wants(t, name, w.Force(), api.OK)
		p.force()
		wants(t, name+": Trim above all", w.Trim(maxLsn+2), api.ErrState)
		wants(t, name+": Trim of all", w.Trim(maxLsn+1), p.trim(maxLsn+1))
		p.same(t, name, w, on)
		appends(t, name+" and trimmed", w, p, 1, "")
		p.same(t, name, w, on)
		p.crash(0, maxLsn)
		p.same(t, name, opened(t, name, on, maxLsn), on)
	}
}

// Sequences of calls, and the chapter's examples

func TestSequences(t *testing.T) {
	rng := rand.New(rand.NewSource(8))
	for round := range 300 {
		room := rng.Intn(400)
		on := tape.New(room)
		p := &plain{room: room}
		if rng.Intn(3) == 0 {
			p.last = uint64(rng.Intn(100))
			p.stable = p.last
		}
		w := opened(t, "new", on, p.last)
		for step := range 60 {
			name := numbers(uint64(round), uint64(step))
			switch rng.Intn(8) {
			case 0:
				wants(t, name, w.Force(), api.OK)
				p.force()
			case 1:
				n := p.first() + uint64(rng.Intn(6))
				wants(t, name, w.Trim(n), p.trim(n))
			case 2:
				keep, least := rng.Intn(60), p.stable-uint64(rng.Intn(int(min(p.stable, 3))+1))
				on.Crash(keep)
				p.crash(keep, least)
				w = opened(t, name, on, least)
			default:
				data := make([]byte, rng.Intn(30))
				rng.Read(data)
				appends(t, name, w, p, uint8(rng.Intn(256)), string(data))
			}
			p.same(t, name, w, on)
		}
	}
}

func TestExamples(t *testing.T) {
	on := tape.New(1000)
	w := opened(t, "new", on, 0)
	numbered := func(data string, want uint64) {
		t.Helper()
		if n, e := w.Append(3, data); n != want || e != api.OK {
			t.Errorf("Append(3, %s): %d, %v", data, n, e)
		}
	}
	numbered("a", 1)
	numbered("b", 2)
	if w.Last() != 2 || w.Stable() != 0 {
		t.Error(w.Last(), w.Stable())
	}
	wants(t, "Force", w.Force(), api.OK)
	numbered("c", 3)
	on.Crash(0)
	w = opened(t, "after a crash", on, 0)
	if w.Last() != 2 {
		t.Error(w.Last())
	}
	gets := func(n uint64, want api.Entry, f api.Errno) {
		t.Helper()
		if r, e := w.Get(n); r != want || e != f {
			t.Errorf("Get(%d): %v, %v", n, r, e)
		}
	}
	gets(3, api.Entry{}, api.ErrNone)
	wants(t, "Trim(2)", w.Trim(2), api.OK)
	if w.First() != 2 {
		t.Error(w.First())
	}
	gets(1, api.Entry{}, api.ErrNone)
	gets(2, api.Entry{N: 2, Kind: 3, Data: "b"}, api.OK)
	wants(t, "Trim(4)", w.Trim(4), api.ErrState)
	w = opened(t, "another one", tape.New(1000), 7)
	numbered("a", 8)
}
