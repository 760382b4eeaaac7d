package cells_test

import (
	"encoding/binary"
	"maps"
	"math/rand"
	"slices"
	"strconv"
	"strings"
	"testing"

	"lockkeeper/api"
	"lockkeeper/cells"
)

const (
	maxKey   = 513
	maxValue = 2048
	maxCells = 65535
)

// row makes cells of keys and values by turns.
func row(words ...string) []api.Cell {
	var l []api.Cell
	for i := 0; i+1 < len(words); i += 2 {
		l = append(l, api.Cell{Key: words[i], Value: words[i+1]})
	}
	return l
}

// rise makes so many cells with ascending keys of three bytes.
func rise(n int) []api.Cell {
	l := make([]api.Cell, n)
	for i := range l {
		l[i] = api.Cell{Key: string([]byte{byte(i >> 16), byte(i >> 8), byte(i)}), Value: strconv.Itoa(i % 7)}
	}
	return l
}

func long(n int) string { return strings.Repeat("k", n) }

// show is a list of cells, of which not more is told than can be read.
func show(l []api.Cell) string {
	told := func(s string) string {
		return strconv.Quote(s[:min(len(s), 8)]) + "/" + strconv.Itoa(len(s))
	}
	s := strconv.Itoa(len(l)) + " cells:"
	for _, c := range l[:min(len(l), 6)] {
		s += " " + told(c.Key) + " " + told(c.Value)
	}
	return s
}

// valid returns cells of all choices of a few keys, and cells as long and as many as they may be.
func valid() [][]api.Cell {
	keys := []string{"", "\x00", "a", "a\x00", "ab", "b\xff"}
	var all [][]api.Cell
	for choice := range 1 << len(keys) {
		var l []api.Cell
		for i, k := range keys {
			if choice>>i&1 == 1 {
				l = append(l, api.Cell{Key: k, Value: strings.Repeat("v", (i*choice)%5)})
			}
		}
		all = append(all, l)
	}
	return append(all,
		[]api.Cell{},
		row(long(maxKey), ""), row("", long(maxValue)), row(long(maxKey), long(maxValue)),
		row(long(maxKey-1), "1", long(maxKey), "2", "z", long(maxValue)),
		row("\x7f", "1", "\x80", "2", "\xff", "3"), row("Z", "same", "a", "same"),
		rise(300),
	)
}

func invalid() [][]api.Cell {
	late := rise(300)
	late[299].Key = late[298].Key
	return [][]api.Cell{
		row("b", "", "a", ""), row("a", "", "a", ""), row("a", "1", "a", "2"), row("", "", "", ""), row("a", "", "", ""),
		row("ab", "", "a", ""), row("a", "", "b", "", "b", ""), row("a", "", "c", "", "b", ""), row("b", "", "a", "", "c", ""), row("\xff", "", "\x7f", ""),
		row(long(maxKey+1), ""), row("", long(maxValue+1)), row("a", "", long(maxKey+1), ""), row("a", "", "b", long(maxValue+1), "c", ""),
		row("a", "", "b", long(maxValue+1)), row("a", "", long(5000), long(70000)), row("a", "1", "b", "2", long(65536), ""), late,
	}
}

// keys returns what is to be asked of cells: their keys, and what is next to them.
func keys(l []api.Cell) []string {
	all := []string{"", "\x00", "a", "a\x00", "aa", "ab", "b", "b\xff", "c", "z", "\xff", long(maxKey), long(maxKey + 1), long(3000)}
	for i, c := range l {
		if i < 4 || i+4 > len(l) {
			all = append(all, c.Key, c.Key+"\x00", c.Key+"\xff", c.Key[:len(c.Key)/2])
		}
	}
	slices.Sort(all)
	return slices.Compact(all)
}

// ranges returns ranges whose bounds are among the words, some of which are not valid.
func ranges(words []string) []api.Range {
	all := []api.Range{{To: "b"}, {From: "b", To: "a", End: true}, {From: long(maxKey + 1)}}
	for _, from := range words {
		all = append(all, api.Range{From: from})
		for _, to := range words {
			all = append(all, api.Range{From: from, To: to, End: true})
		}
	}
	return all
}

// plainRight tells by each condition of the Terms whether cells are valid.
func plainRight(l []api.Cell) bool {
	for i := range l {
		for j := range l[:i] {
			if l[j].Key >= l[i].Key {
				return false
			}
		}
	}
	return !slices.ContainsFunc(l, func(c api.Cell) bool { return len(c.Key) > maxKey || len(c.Value) > maxValue })
}

func plainSize(l []api.Cell) int {
	all := ""
	for _, c := range l {
		all += "size" + c.Key + c.Value
	}
	return len(all)
}

// plainMap returns valid cells as a map.
func plainMap(l []api.Cell) map[string]string {
	m := map[string]string{}
	for _, c := range l {
		m[c.Key] = c.Value
	}
	return m
}

// plainListed returns a map as cells.
func plainListed(m map[string]string) []api.Cell {
	var l []api.Cell
	for _, k := range slices.Sorted(maps.Keys(m)) {
		l = append(l, api.Cell{Key: k, Value: m[k]})
	}
	return l
}

func plainHas(r api.Range, key string) bool {
	right := len(r.From) <= maxKey && (!r.End && r.To == "" || r.End && r.From < r.To && len(r.To) <= maxKey)
	return right && r.From <= key && (!r.End || key < r.To)
}

func plainHalf(l []api.Cell) int {
	for n := 1; n < len(l); n++ {
		if 2*plainSize(l[:n]) >= plainSize(l) {
			return n
		}
	}
	return len(l) - 1
}

// plainBytes are the bytes of cells as the Terms define them.
func plainBytes(l []api.Cell) string {
	text := func(b []byte, s string) []byte { return append(binary.BigEndian.AppendUint16(b, uint16(len(s))), s...) }
	var slots, body []byte
	for _, c := range l {
		slots = binary.BigEndian.AppendUint32(slots, uint32(len(body)))
		body = text(text(body, c.Key), c.Value)
	}
	return string(binary.BigEndian.AppendUint16(nil, uint16(len(l)))) + string(slots) + string(body)
}

// alike reports whether cells are the same, held against each other here.
func alike(a, b []api.Cell) bool {
	if len(a) != len(b) {
		return false
	}
	for i := range a {
		if a[i].Key != b[i].Key || a[i].Value != b[i].Value {
			return false
		}
	}
	return true
}

// wants checks the cells that a call answered.
func wants(t *testing.T, name string, got []api.Cell, e api.Errno, want []api.Cell) {
	t.Helper()
	if e != api.OK || !alike(got, want) {
		t.Errorf("%s: %s, %v, not %s", name, show(got), e, show(want))
	}
}

// refused checks that a call answered an error and no cells.
func refused(t *testing.T, name string, got []api.Cell, e, want api.Errno) {
	t.Helper()
	if e != want || len(got) != 0 {
		t.Errorf("%s: %s, %v, not %v", name, show(got), e, want)
	}
}

// P10.1

func TestRight(t *testing.T) {
	for _, l := range valid() {
		if !cells.Right(l) || !plainRight(l) {
			t.Error(show(l))
		}
	}
	for _, l := range invalid() {
		if cells.Right(l) || plainRight(l) {
			t.Error(show(l))
		}
	}
	for _, n := range []int{maxCells, maxCells + 1, 2 * maxCells} {
		if !cells.Right(rise(n)) {
			t.Error(n, "cells")
		}
	}
}

func TestSize(t *testing.T) {
	for _, l := range append(valid(), invalid()...) {
		if got := cells.Size(l); got != plainSize(l) {
			t.Errorf("%s: %d, not %d", show(l), got, plainSize(l))
		}
	}
	if got := cells.Size(rise(maxCells + 1)); got != 8*(maxCells+1) {
		t.Error(got)
	}
}

func TestSame(t *testing.T) {
	all := append(append(valid(), invalid()...), row("a", "x"), row("x", "a"), row("a", "", "b", "x"), row("a", "b", "", "x"), row("ab", ""))
	for _, a := range all {
		for _, b := range all {
			if got := cells.Same(a, b); got != alike(a, b) {
				t.Errorf("%s and %s: %v", show(a), show(b), got)
			}
		}
		if !cells.Same(a, slices.Clone(a)) {
			t.Errorf("%s and a copy", show(a))
		}
	}
	if !cells.Same(nil, []api.Cell{}) || !cells.Same([]api.Cell{}, nil) || !cells.Same(nil, nil) {
		t.Error("nil and empty")
	}
}

// P10.2

func TestFind(t *testing.T) {
	for _, l := range valid() {
		m := plainMap(l)
		for _, k := range keys(l) {
			want, there := m[k]
			if v, is := cells.Find(l, k); v != want || is != there {
				t.Errorf("%s: %q: %q, %v", show(l), k, v, is)
			}
		}
	}
	for _, l := range invalid() {
		for _, k := range keys(l) {
			if v, is := cells.Find(l, k); v != "" || is {
				t.Errorf("%s, which are not valid, have %q", show(l), k)
			}
		}
	}
}

func TestAt(t *testing.T) {
	for _, l := range valid() {
		for _, k := range keys(l) {
			want := -1
			for i, c := range l {
				if c.Key <= k {
					want = i
				}
			}
			if got := cells.At(l, k); got != want {
				t.Errorf("%s: %q: %d, not %d", show(l), k, got, want)
			}
		}
	}
	for _, l := range invalid() {
		for _, k := range keys(l) {
			if got := cells.At(l, k); got != -1 {
				t.Errorf("%s, which are not valid: %q: %d", show(l), k, got)
			}
		}
	}
}

// P10.3

func TestPut(t *testing.T) {
	for _, l := range valid() {
		for _, k := range keys(l) {
			for _, v := range []string{"", "new", long(maxValue), long(maxValue + 1)} {
				name := show(l) + ", " + show(row(k, v))
				got, e := cells.Put(l, api.Cell{Key: k, Value: v})
				if len(k) > maxKey || len(v) > maxValue {
					refused(t, name, got, e, api.ErrCells)
					continue
				}
				m := plainMap(l)
				m[k] = v
				wants(t, name, got, e, plainListed(m))
			}
		}
	}
	for _, l := range invalid() {
		for _, k := range keys(l) {
			got, e := cells.Put(l, api.Cell{Key: k})
			refused(t, show(l), got, e, api.ErrCells)
		}
	}
}

// There may be more cells than have bytes.
func TestPutMany(t *testing.T) {
	l := rise(maxCells + 1)
	got, e := cells.Put(l[:maxCells], l[maxCells])
	wants(t, "at the end", got, e, l)
	got, e = cells.Put(l[1:], l[0])
	wants(t, "at the beginning", got, e, l)
	got, e = cells.Delete(l, l[maxCells].Key)
	wants(t, "away from the end", got, e, l[:maxCells])
	if half, e := cells.Half(l); half != (maxCells+1)/2 || e != api.OK {
		t.Error(half, e)
	}
}

func TestDelete(t *testing.T) {
	for _, l := range valid() {
		for _, k := range keys(l) {
			m := plainMap(l)
			delete(m, k)
			got, e := cells.Delete(l, k)
			wants(t, show(l)+", "+strconv.Quote(k), got, e, plainListed(m))
		}
	}
	for _, l := range invalid() {
		for _, k := range keys(l) {
			got, e := cells.Delete(l, k)
			refused(t, show(l), got, e, api.ErrCells)
		}
	}
}

func TestPart(t *testing.T) {
	for _, l := range valid() {
		for _, r := range ranges(keys(l)) {
			var want []api.Cell
			for _, c := range l {
				if plainHas(r, c.Key) {
					want = append(want, c)
				}
			}
			wants(t, show(l)+", from "+show(row(r.From, r.To)), cells.Part(l, r), api.OK, want)
		}
	}
	for _, l := range invalid() {
		for _, r := range append(ranges([]string{"", "a", "b", "z"}), api.Range{}) {
			if got := cells.Part(l, r); len(got) != 0 {
				t.Errorf("%s, which are not valid: %s", show(l), show(got))
			}
		}
	}
}

// P10.4

// sized makes cells of the sizes that are named, of at least five bytes.
func sized(sizes ...int) []api.Cell {
	var l []api.Cell
	for i, n := range sizes {
		l = append(l, api.Cell{Key: string(rune('a' + i)), Value: strings.Repeat("v", n-5)})
	}
	return l
}

// halves checks what Half answers of valid cells, of which there are at least two.
func halves(t *testing.T, l []api.Cell) {
	t.Helper()
	if got, e := cells.Half(l); e != api.OK || got != plainHalf(l) {
		t.Errorf("%s: %d, %v, not %d", show(l), got, e, plainHalf(l))
	}
}

func TestHalf(t *testing.T) {
	for _, l := range valid() {
		if len(l) >= 2 {
			halves(t, l)
			continue
		}
		if got, e := cells.Half(l); got != 0 || e != api.ErrState {
			t.Errorf("%s: %d, %v", show(l), got, e)
		}
	}
	for _, l := range invalid() {
		if got, e := cells.Half(l); got != 0 || e != api.ErrCells {
			t.Errorf("%s: %d, %v", show(l), got, e)
		}
	}
}

// All sizes of up to four cells, where a half is reached just so, or missed by one byte.
func TestHalfSizes(t *testing.T) {
	for a := 5; a <= 12; a++ {
		for b := 5; b <= 12; b++ {
			halves(t, sized(a, b))
			for c := 5; c <= 26; c++ {
				halves(t, sized(a, b, c))
				halves(t, sized(a, b, c, 7))
				halves(t, sized(c, a, b, 5))
			}
		}
	}
	halves(t, sized(5, 5, 5, 5, 2000))
	halves(t, sized(2000, 5, 5, 5, 5))
	halves(t, row("", "", "\x00", ""))
}

// P10.5

// gets checks what Get answers of the bytes of cells.
func gets(t *testing.T, name, s string, want []api.Cell) {
	t.Helper()
	got, e := cells.Get(s)
	wants(t, name+": Get", got, e, want)
}

func TestBytes(t *testing.T) {
	for _, l := range valid() {
		b, e := cells.Bytes(l)
		if e != api.OK || b != plainBytes(l) {
			t.Errorf("%s: %x, %v, not %x", show(l), b, e, plainBytes(l))
		}
		gets(t, show(l), b, l)
	}
	for _, l := range invalid() {
		if b, e := cells.Bytes(l); b != "" || e != api.ErrCells {
			t.Errorf("%s: %x, %v", show(l), b, e)
		}
	}
}

func TestBytesMany(t *testing.T) {
	l := rise(maxCells)
	b, e := cells.Bytes(l)
	if e != api.OK || b != plainBytes(l) {
		t.Errorf("%d bytes, %v", len(b), e)
	}
	gets(t, "as many as there may be", b, l)
	for _, more := range []int{1, 2, maxCells + 1} {
		if b, e := cells.Bytes(rise(maxCells + more)); b != "" || e != api.ErrFull {
			t.Errorf("%d more: %d bytes, %v", more, len(b), e)
		}
	}
	worse := rise(maxCells + 1)
	worse[maxCells].Key = ""
	if b, e := cells.Bytes(worse); b != "" || e != api.ErrCells {
		t.Errorf("too many that are not valid: %d bytes, %v", len(b), e)
	}
}

// Slots of more than two and of more than three bytes.
func TestBytesFar(t *testing.T) {
	var l []api.Cell
	for i := range 9000 {
		l = append(l, api.Cell{Key: strconv.Itoa(100000 + i), Value: long(maxValue)})
	}
	b, e := cells.Bytes(l)
	if e != api.OK || b != plainBytes(l) || len(b) < 1<<24 {
		t.Errorf("%d bytes, %v", len(b), e)
	}
	gets(t, "far slots", b, l)
}

func TestGetRefuses(t *testing.T) {
	for _, c := range [][2]string{
		{"no bytes", ""},
		{"one byte", "\x00"},
		{"bytes behind no cells", "\x00\x00\x00"},
		{"no slot", "\x00\x01"},
		{"half a slot", "\x00\x01\x00\x00"},
		{"no cell", "\x00\x01\x00\x00\x00\x00"},
		{"no value", "\x00\x01\x00\x00\x00\x00\x00\x01k"},
		{"a value that is cut off", "\x00\x01\x00\x00\x00\x00\x00\x01k\x00\x02v"},
		{"a cell that is not counted", "\x00\x00\x00\x01k\x00\x01v"},
		{"a slot that is not counted", "\x00\x00\x00\x00\x00\x00"},
		{"as many as can be counted", "\xff\xff"},
		{"a first slot that is not 0", "\x00\x01\x00\x00\x00\x01\x00\x01k\x00\x01v"},
		{"slots from the beginning of all", "\x00\x01\x00\x00\x00\x06\x00\x01k\x00\x01v"},
		{"slots that are exchanged", "\x00\x02\x00\x00\x00\x06\x00\x00\x00\x00\x00\x01a\x00\x01v\x00\x01b\x00\x01v"},
		{"slots to one cell", "\x00\x02\x00\x00\x00\x00\x00\x00\x00\x00\x00\x01a\x00\x01v\x00\x01b\x00\x01v"},
		{"cells in the order of their slots alone", "\x00\x02\x00\x00\x00\x06\x00\x00\x00\x00\x00\x01b\x00\x01v\x00\x01a\x00\x01v"},
		{"a gap between cells", "\x00\x02\x00\x00\x00\x00\x00\x00\x00\x07\x00\x01a\x00\x01v\x00\x00\x01b\x00\x01v"},
	} {
		got, e := cells.Get(c[1])
		refused(t, c[0], got, e, api.ErrCells)
	}
	for _, l := range invalid() {
		got, e := cells.Get(plainBytes(l))
		refused(t, show(l), got, e, api.ErrCells)
	}
}

// Of bytes that are cut off, prolonged or changed at one place only those are accepted that are the bytes of some cells.
func TestGetChanged(t *testing.T) {
	accepted := 0
	check := func(name, s string) {
		t.Helper()
		got, e := cells.Get(s)
		if e == api.OK {
			accepted++
			if !plainRight(got) || plainBytes(got) != s {
				t.Errorf("%s: %s of %x", name, show(got), s)
			}
			return
		}
		refused(t, name, got, e, api.ErrCells)
	}
	for _, l := range append(valid()[:64], row("", "", "a", "x", "b", "yy"), row("k", "v")) {
		b := plainBytes(l)
		for n := range len(b) {
			got, e := cells.Get(b[:n])
			refused(t, show(l)+", cut off", got, e, api.ErrCells)
		}
		for _, more := range []string{"\x00", "x", "\x00\x00\x00\x00", b} {
			got, e := cells.Get(b + more)
			refused(t, show(l)+", prolonged", got, e, api.ErrCells)
		}
		for i := range len(b) {
			for _, by := range []byte{1, 2, 4, 0x80, 0xff} {
				check(show(l)+", changed at "+strconv.Itoa(i), b[:i]+string([]byte{b[i] ^ by})+b[i+1:])
			}
		}
	}
	if accepted == 0 {
		t.Error("no changed value was accepted")
	}
}

// All strings of a few bytes that could be those of one cell.
func TestGetAll(t *testing.T) {
	var accepted []string
	var try func(s string, more int)
	try = func(s string, more int) {
		if got, e := cells.Get(s); e == api.OK {
			accepted = append(accepted, s)
			if plainBytes(got) != s {
				t.Errorf("%s of %x", show(got), s)
			}
		}
		for b := range byte(3) {
			if more > 0 {
				try(s+string([]byte{b}), more-1)
			}
		}
	}
	try("\x00\x01\x00\x00\x00\x00", 7)
	// The key and the value have none to three bytes together, none of them above 2, as no length is.
	if want := 1 + 2*3 + 3*9 + 2*27; len(accepted) != want {
		t.Errorf("%d strings were accepted, not %d", len(accepted), want)
	}
}

func TestGetRandom(t *testing.T) {
	random := rand.New(rand.NewSource(10))
	for range 20000 {
		b := make([]byte, random.Intn(24))
		for i := range b {
			b[i] = byte(random.Intn(3))
		}
		if got, e := cells.Get(string(b)); e == api.OK && plainBytes(got) != string(b) || e != api.OK && (e != api.ErrCells || got != nil) {
			t.Errorf("%s, %v of %x", show(got), e, b)
		}
	}
}

// R5: what is handed in is neither changed nor shared, its spare capacity included.

// untouched checks that a call left the cells and what is behind them as they were, and that writing to its answer leaves them so too.
func untouched(t *testing.T, name string, call func(l []api.Cell) []api.Cell) {
	t.Helper()
	whole := row("a", "1", "c", "3", "e", "5", "spare", "6", "spare", "7")
	before := slices.Clone(whole)
	got := call(whole[:3])
	if !alike(whole, before) {
		t.Errorf("%s changed what it was given: %s", name, show(whole))
	}
	got = got[:cap(got)]
	for i := range got {
		got[i] = api.Cell{Key: "over", Value: "over"}
	}
	if !alike(whole, before) {
		t.Errorf("%s shares its answer with what it was given: %s", name, show(whole))
	}
}

func TestCopies(t *testing.T) {
	for _, k := range []string{"", "a", "b", "c", "d", "e", "f"} {
		untouched(t, "Put "+k, func(l []api.Cell) []api.Cell {
			got, _ := cells.Put(l, api.Cell{Key: k, Value: "new"})
			return got
		})
		untouched(t, "Delete "+k, func(l []api.Cell) []api.Cell {
			got, _ := cells.Delete(l, k)
			return got
		})
		untouched(t, "Part from "+k, func(l []api.Cell) []api.Cell { return cells.Part(l, api.Range{From: k}) })
		untouched(t, "Part to "+k, func(l []api.Cell) []api.Cell { return cells.Part(l, api.Range{To: k, End: true}) })
	}
	untouched(t, "Half and Bytes", func(l []api.Cell) []api.Cell {
		cells.Half(l)
		cells.Bytes(l)
		cells.Same(l, l)
		return nil
	})
}

// Of two answers of one call the one is not changed by the other.
func TestCopiesApart(t *testing.T) {
	l := row("a", "1", "b", "2")
	one, _ := cells.Put(l, api.Cell{Key: "c", Value: "3"})
	other, _ := cells.Put(one, api.Cell{Key: "d", Value: "4"})
	again, _ := cells.Put(one, api.Cell{Key: "e", Value: "5"})
	wants(t, "the first", one, api.OK, row("a", "1", "b", "2", "c", "3"))
	wants(t, "the second", other, api.OK, row("a", "1", "b", "2", "c", "3", "d", "4"))
	wants(t, "the third", again, api.OK, row("a", "1", "b", "2", "c", "3", "e", "5"))
	b := plainBytes(l)
	got, _ := cells.Get(b)
	got[0].Key = "x"
	gets(t, "again", b, l)
}

// P10.6

// Find of a key that was put, and of others, before and behind each of many calls.
func TestSequences(t *testing.T) {
	random := rand.New(rand.NewSource(6))
	for range 60 {
		var l []api.Cell
		m := map[string]string{}
		for range 80 {
			key := string([]byte{"abc"[random.Intn(3)], "\x00az\xff"[random.Intn(4)], "xy"[random.Intn(2)]})[:random.Intn(4)]
			value := strconv.Itoa(random.Intn(100))
			var e api.Errno
			if random.Intn(3) > 0 {
				l, e = cells.Put(l, api.Cell{Key: key, Value: value})
				m[key] = value
			} else {
				l, e = cells.Delete(l, key)
				delete(m, key)
			}
			wants(t, "the sequence", l, e, plainListed(m))
			for _, k := range append(keys(l), key) {
				want, there := m[k]
				if v, is := cells.Find(l, k); v != want || is != there {
					t.Fatalf("%s: %q: %q, %v, not %q, %v", show(l), k, v, is, want, there)
				}
			}
		}
	}
}

func TestPartsMeet(t *testing.T) {
	for _, l := range valid() {
		words := slices.DeleteFunc(keys(l), func(k string) bool { return len(k) > maxKey })
		words = words[:min(len(words), 14)]
		for i, from := range words {
			for j, bound := range words[i+1:] {
				lower := cells.Part(l, api.Range{From: from, To: bound, End: true})
				rest := cells.Part(l, api.Range{From: bound})
				wants(t, show(l)+", without an end", append(lower, rest...), api.OK, cells.Part(l, api.Range{From: from}))
				for _, to := range words[i+j+2:] {
					lower := cells.Part(l, api.Range{From: from, To: bound, End: true})
					upper := cells.Part(l, api.Range{From: bound, To: to, End: true})
					wants(t, show(l), append(lower, upper...), api.OK, cells.Part(l, api.Range{From: from, To: to, End: true}))
				}
			}
		}
	}
}

func TestBytesTellApart(t *testing.T) {
	all := append(valid(), row("a", "bc"), row("ab", "c"), row("abc", ""), row("", "abc"), row("a", "", "bc", ""), row("", "\x00\x00", "a", ""))
	for i, a := range all {
		one, _ := cells.Bytes(a)
		for _, b := range all[i:] {
			if other, _ := cells.Bytes(b); (one == other) != cells.Same(a, b) {
				t.Errorf("%s and %s: %x and %x", show(a), show(b), one, other)
			}
		}
	}
}

// The chapter's examples.
func TestExamples(t *testing.T) {
	got, e := cells.Put(row("a", "1", "c", "3"), api.Cell{Key: "b", Value: "2"})
	wants(t, "between", got, e, row("a", "1", "b", "2", "c", "3"))
	got, e = cells.Put(row("a", "1"), api.Cell{Key: "a", Value: "2"})
	wants(t, "in place", got, e, row("a", "2"))
	for i, k := range []string{"a", "c", "z"} {
		if got := cells.At(row("b", "", "d", ""), k); got != i-1 {
			t.Error(k, got)
		}
	}
	for _, c := range []struct {
		l    []api.Cell
		want int
		e    api.Errno
	}{{sized(10, 10, 30), 2, api.OK}, {sized(40, 5), 1, api.OK}, {sized(9), 0, api.ErrState}} {
		if got, e := cells.Half(c.l); got != c.want || e != c.e {
			t.Error(show(c.l), got, e)
		}
	}
	if b, e := cells.Bytes(row("k", "v")); b != "\x00\x01\x00\x00\x00\x00\x00\x01\x6b\x00\x01\x76" || e != api.OK {
		t.Errorf("%x, %v", b, e)
	}
}
