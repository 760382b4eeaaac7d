package page_test

import (
	"encoding/binary"
	"math"
	"math/rand"
	"slices"
	"strconv"
	"strings"
	"testing"

	"lockkeeper/api"
	"lockkeeper/page"
)

const (
	maxId    = 400
	maxLevel = 10
	maxLsn   = 1 << 48
	maxKey   = 512
	maxBound = 513
	maxValue = 2048
	maxIn    = 1000
	maxCells = 65535
)

func long(n int) string { return strings.Repeat("k", n) }

// child is a page's number as eight bytes, whether or not a page may have it.
func child(id uint64) string { return string(binary.BigEndian.AppendUint64(nil, id)) }

// row makes cells of keys and values by turns.
func row(words ...string) []api.Cell {
	var l []api.Cell
	for i := 0; i+1 < len(words); i += 2 {
		l = append(l, api.Cell{Key: words[i], Value: words[i+1]})
	}
	return l
}

// rise makes so many cells with ascending keys of three bytes, the first one's being three bytes 0.
func rise(n int, value string) []api.Cell {
	l := make([]api.Cell, n)
	for i := range l {
		l[i] = api.Cell{Key: string([]byte{byte(i >> 16), byte(i >> 8), byte(i)}), Value: value}
	}
	return l
}

// numbers returns so many numbers from first on.
func numbers(first uint64, n int) []uint64 {
	var l []uint64
	for i := range uint64(n) {
		l = append(l, first+i)
	}
	return l
}

// with returns the page after a change of its own; the lists of the page that was given are not shared.
func with(p api.Page, turn func(p *api.Page)) api.Page {
	p = clone(p)
	turn(&p)
	return p
}

func clone(p api.Page) api.Page {
	p.Set.In, p.Cells = slices.Clone(p.Set.In), slices.Clone(p.Cells)
	return p
}

// show is a page, of which not more is told than can be read.
func show(p api.Page) string {
	number := func(n uint64) string { return strconv.FormatUint(n, 10) }
	text := func(s string) string { return strconv.Quote(s[:min(len(s), 8)]) + "/" + strconv.Itoa(len(s)) }
	s := "{" + number(p.Id) + " " + number(p.Right) + " level " + number(uint64(p.Level)) + " from " + text(p.Low) + " to " + text(p.High) + " " + strconv.FormatBool(p.End)
	s += " dsn " + number(p.Dsn) + " set " + number(p.Set.Low) + " and " + strconv.Itoa(len(p.Set.In)) + ":"
	for _, n := range p.Set.In[:min(len(p.Set.In), 4)] {
		s += " " + number(n)
	}
	s += " cells " + strconv.Itoa(len(p.Cells)) + ":"
	for _, c := range p.Cells[:min(len(p.Cells), 4)] {
		s += " " + text(c.Key) + " " + text(c.Value)
	}
	return s + "}"
}

// leaf and inner are pages in the middle of their levels.
func leaf() api.Page {
	return api.Page{Id: 1, Right: 2, Low: "b", High: "d", End: true, Dsn: 7, Set: api.Lsns{Low: 3, In: []uint64{5, 8}}, Cells: row("b", "x", "c", "")}
}

func inner() api.Page {
	return api.Page{Id: 3, Right: 4, Level: 1, Low: "b", High: "q", End: true, Dsn: 9, Cells: row("b", child(1), "m", child(258), "n", child(400))}
}

// leaves returns valid leaves, those at each edge that the chapter names among them.
func leaves() []api.Page {
	return []api.Page{
		{Id: 1}, {Id: maxId}, {Id: 2, Right: 1, High: "a", End: true}, {Id: 1, Right: maxId, High: "\x00", End: true}, {Id: maxId, Right: maxId - 1, High: "a", End: true},
		{Id: 1, Low: "a"}, {Id: 1, Low: long(maxBound)}, {Id: 256, Right: 257, Low: long(maxBound - 1), High: long(maxBound), End: true},
		{Id: 1, Dsn: 1}, {Id: 1, Dsn: maxLsn}, {Id: 1, Dsn: 0x0807060504},
		{Id: 1, Set: api.Lsns{In: []uint64{}}, Cells: []api.Cell{}},
		{Id: 1, Set: api.Lsns{Low: maxLsn}}, {Id: 1, Set: api.Lsns{In: []uint64{maxLsn}}}, {Id: 1, Set: api.Lsns{Low: maxLsn - 1, In: []uint64{maxLsn}}},
		{Id: 1, Set: api.Lsns{Low: 6, In: numbers(8, maxIn)}}, {Id: 1, Set: api.Lsns{In: numbers(maxLsn-maxIn+1, maxIn)}},
		{Id: 1, Cells: row("", "")}, {Id: 1, Cells: row("", "x", long(maxKey), long(maxValue))},
		{Id: 1, Low: "b", Cells: row("b", "")}, {Id: 1, Low: "b", Cells: row("z", "")},
		{Id: 1, Right: 2, Low: "b", High: "d", End: true, Cells: row("c\xff\xff", "")},
		{Id: 1, Right: 2, Low: "b", High: "b\x00", End: true, Cells: row("b", "the point")},
		{Id: 1, Cells: rise(300, "v")},
		leaf(), with(leaf(), func(p *api.Page) { p.Cells = nil }), with(leaf(), func(p *api.Page) { p.Right, p.End, p.High = 0, false, "" }),
	}
}

// inners returns valid inner pages, as leaves does.
func inners() []api.Page {
	return []api.Page{
		{Id: 1, Level: 1, Cells: row("", child(1))}, {Id: 1, Level: maxLevel, Cells: row("", child(maxId))},
		{Id: maxId, Level: 5, Low: "a", Cells: row("a", child(2), "a\x00", child(2))},
		{Id: 1, Level: 1, Low: long(maxBound), Cells: row(long(maxBound), child(7))},
		{Id: 1, Level: 1, Cells: row("", child(7), long(maxBound), child(8))},
		{Id: 1, Right: 2, Level: 2, High: long(maxBound), End: true, Cells: row("", child(7), long(maxBound-1), child(8))},
		{Id: 3, Level: 1, Cells: row("", child(2), "m", child(3))},
		{Id: 1, Level: 1, Dsn: maxLsn, Set: api.Lsns{In: []uint64{}}, Low: "\x00\x00\x00", Cells: rise(300, child(255))},
		inner(), with(inner(), func(p *api.Page) { p.Level = maxLevel }), with(inner(), func(p *api.Page) { p.Cells = p.Cells[:1] }),
		with(inner(), func(p *api.Page) { p.Right, p.End, p.High = 0, false, "" }),
	}
}

func valid() []api.Page { return append(leaves(), inners()...) }

// wrongAlways are changes that make each of leaf and inner invalid.
func wrongAlways() map[string]func(p *api.Page) {
	return map[string]func(p *api.Page){
		"no id":               func(p *api.Page) { p.Id = 0 },
		"an id too great":     func(p *api.Page) { p.Id = maxId + 1 },
		"an id of five bytes": func(p *api.Page) { p.Id += 1 << 32 },
		"the greatest id":     func(p *api.Page) { p.Id = math.MaxUint64 },
		"a right too great":   func(p *api.Page) { p.Right = maxId + 1 },
		"a right of five":     func(p *api.Page) { p.Right += 1 << 32 },
		"the greatest right":  func(p *api.Page) { p.Right = math.MaxUint64 },
		"right of itself":     func(p *api.Page) { p.Right = p.Id },
		"level 11":            func(p *api.Page) { p.Level = maxLevel + 1 },
		"level 255":           func(p *api.Page) { p.Level = 255 },
		"a dsn too great":     func(p *api.Page) { p.Dsn = maxLsn + 1 },
		"the greatest dsn":    func(p *api.Page) { p.Dsn = math.MaxUint64 },
		"an end alone":        func(p *api.Page) { p.Right = 0 },
		"a right alone":       func(p *api.Page) { p.High, p.End = "", false },
		"high without an end": func(p *api.Page) { p.Right, p.End = 0, false },
		"a right and high":    func(p *api.Page) { p.End = false },
		"no high":             func(p *api.Page) { p.High = "" },
		"high is low":         func(p *api.Page) { p.High, p.Cells = p.Low, nil },
		"high below low":      func(p *api.Page) { p.High, p.Cells = "a", nil },
		"a low too long":      func(p *api.Page) { p.Low = "b" + long(maxBound); p.Cells = p.Cells[1:] },
		"a high too long":     func(p *api.Page) { p.High = "q" + long(maxBound) },
		"a very long high":    func(p *api.Page) { p.High = "q" + long(70000) },
		"a key below low":     func(p *api.Page) { p.Cells = slices.Insert(p.Cells, 0, api.Cell{Key: "a", Value: child(2)}) },
		"a key at high":       func(p *api.Page) { p.Cells = append(p.Cells, api.Cell{Key: p.High, Value: child(2)}) },
		"a key above high":    func(p *api.Page) { p.Cells = append(p.Cells, api.Cell{Key: "z", Value: child(2)}) },
		"keys that descend":   func(p *api.Page) { p.Cells = row("b", child(1), "bb", child(2), "ba", child(3)) },
		"keys that are equal": func(p *api.Page) { p.Cells = row("b", child(1), "b", child(1)) },
		"a key too long":      func(p *api.Page) { p.Cells = row("b", child(1), "b"+long(maxBound), child(2)) },
		"a very long value":   func(p *api.Page) { p.Cells[1].Value = long(maxValue + 1) },
		"a set from 5 to 5":   func(p *api.Page) { p.Set = api.Lsns{Low: 5, In: []uint64{5}} },
		"a set with 0":        func(p *api.Page) { p.Set = api.Lsns{In: []uint64{0}} },
		"a set that descends": func(p *api.Page) { p.Set = api.Lsns{In: []uint64{7, 6}} },
		"a set too large":     func(p *api.Page) { p.Set.In = numbers(10, maxIn+1) },
		"a set too high":      func(p *api.Page) { p.Set = api.Lsns{Low: maxLsn + 1} },
		"a number too great":  func(p *api.Page) { p.Set = api.Lsns{In: []uint64{7, maxLsn + 1}} },
		"the greatest number": func(p *api.Page) { p.Set = api.Lsns{In: []uint64{math.MaxUint64}} },
		"the greatest low":    func(p *api.Page) { p.Set = api.Lsns{Low: math.MaxUint64} },
	}
}

func wrongLeaf() map[string]func(p *api.Page) {
	return map[string]func(p *api.Page){
		"a key of 513":           func(p *api.Page) { p.Cells = row("b"+long(maxKey), "") },
		"513 behind":             func(p *api.Page) { p.Cells = row("b", "", "ba", "", "c"+long(maxKey), "") },
		"an inner page's key":    func(p *api.Page) { p.Cells = row("b", "", "b"+long(maxKey), child(1)) },
		"low of 513, and a cell": func(p *api.Page) { p.Low = "b" + long(maxKey); p.Cells = row(p.Low, "") },
	}
}

func wrongInner() map[string]func(p *api.Page) {
	all := map[string]func(p *api.Page){
		"a set with a low":    func(p *api.Page) { p.Set.Low = 1 },
		"a set with a number": func(p *api.Page) { p.Set.In = []uint64{1} },
		"no cell":             func(p *api.Page) { p.Cells = nil },
		"an empty list":       func(p *api.Page) { p.Cells = []api.Cell{} },
		"no cell at low":      func(p *api.Page) { p.Cells = p.Cells[1:] },
		"a cell behind low":   func(p *api.Page) { p.Cells[0].Key = "b\x00" },
		"low below the cells": func(p *api.Page) { p.Low = "a" },
		"a low that is empty": func(p *api.Page) { p.Low = "" },
	}
	for _, v := range noChildren() {
		for i := range inner().Cells {
			all["the value "+strconv.Quote(v)+" at "+strconv.Itoa(i)] = func(p *api.Page) { p.Cells[i].Value = v }
		}
	}
	return all
}

// noChildren returns values that are not a child.
func noChildren() []string {
	return []string{
		"", "\x01", "\x00\x00\x00\x01", "\x00\x00\x00\x00\x00\x00\x01", "\x00\x00\x00\x00\x00\x00\x00\x00\x01", child(1) + "\x00", child(1) + child(1), "\x01" + child(0)[1:],
		child(0), child(maxId + 1), child(512), child(1<<32 + 1), child(1 << 56), child(math.MaxUint64), long(7), long(8), long(9), long(maxValue),
	}
}

// invalid returns pages of which each breaks a condition of the Terms, by what is wrong.
func invalid() map[string]api.Page {
	all := map[string]api.Page{"the zero page": {}}
	add := func(name string, p api.Page, wrong map[string]func(p *api.Page)) {
		for what, turn := range wrong {
			all[name+": "+what] = with(p, turn)
		}
	}
	add("leaf", leaf(), wrongAlways())
	add("leaf", leaf(), wrongLeaf())
	add("inner", inner(), wrongAlways())
	add("inner", inner(), wrongInner())
	return all
}

// plainHas reports whether a key is in a page's range, which is known to be valid.
func plainHas(p api.Page, key string) bool { return key >= p.Low && (!p.End || key < p.High) }

// plainRight tells by each condition of the Terms whether a page is valid.
func plainRight(p api.Page) bool {
	return plainNumbers(p) && plainRange(p) && plainSet(p) && plainCells(p)
}

func plainNumbers(p api.Page) bool {
	return p.Id >= 1 && p.Id <= maxId && p.Right <= maxId && p.Right != p.Id && p.Level <= maxLevel && p.Dsn <= maxLsn
}

func plainRange(p api.Page) bool {
	if len(p.Low) > maxBound || len(p.High) > maxBound {
		return false
	}
	if p.End {
		return p.Low < p.High && p.Right > 0
	}
	return p.High == "" && p.Right == 0
}

func plainSet(p api.Page) bool {
	all := append([]uint64{p.Set.Low}, p.Set.In...)
	for i := range all[1:] {
		if all[i+1] <= all[i] {
			return false
		}
	}
	if len(all) > maxIn+1 || all[len(all)-1] > maxLsn {
		return false
	}
	return p.Level == 0 || len(all) == 1 && all[0] == 0
}

func plainCells(p api.Page) bool {
	most := maxBound
	if p.Level == 0 {
		most = maxKey
	} else if len(p.Cells) == 0 || p.Cells[0].Key != p.Low {
		return false
	}
	for i, c := range p.Cells {
		if len(c.Key) > most || len(c.Value) > maxValue || !plainHas(p, c.Key) || i > 0 && c.Key <= p.Cells[i-1].Key {
			return false
		}
		if p.Level > 0 && !plainChild(c.Value) {
			return false
		}
	}
	return true
}

func plainChild(value string) bool {
	for id := uint64(1); id <= maxId; id++ {
		if value == child(id) {
			return true
		}
	}
	return false
}

// plainBytes is the bytes of a page as the Terms say, also of one that is not valid, as far as its parts fit their widths.
func plainBytes(p api.Page) string {
	text := func(b []byte, s string) []byte {
		return append(binary.BigEndian.AppendUint16(b, uint16(len(s))), s...)
	}
	b := binary.BigEndian.AppendUint32(nil, uint32(p.Id))
	b = binary.BigEndian.AppendUint32(b, uint32(p.Right))
	b = append(b, p.Level)
	if p.End {
		b = append(b, 1)
	} else {
		b = append(b, 0)
	}
	b = binary.BigEndian.AppendUint64(b, p.Dsn)
	b = text(text(b, p.Low), p.High)
	b = binary.BigEndian.AppendUint64(b, p.Set.Low)
	b = binary.BigEndian.AppendUint16(b, uint16(len(p.Set.In)))
	for _, n := range p.Set.In {
		b = binary.BigEndian.AppendUint64(b, n)
	}
	b = binary.BigEndian.AppendUint16(b, uint16(len(p.Cells)))
	offset := 0
	for _, c := range p.Cells {
		b = binary.BigEndian.AppendUint32(b, uint32(offset))
		offset += 4 + len(c.Key) + len(c.Value)
	}
	for _, c := range p.Cells {
		b = text(text(b, c.Key), c.Value)
	}
	return string(b)
}

// fits reports whether plainBytes leaves nothing of the page out.
func fits(p api.Page) bool {
	return p.Id < 1<<32 && p.Right < 1<<32 && len(p.Low) < 1<<16 && len(p.High) < 1<<16
}

// alike reports whether two pages are equal, held against each other here.
func alike(a, b api.Page) bool {
	return slices.Equal(a.Set.In, b.Set.In) && slices.Equal(a.Cells, b.Cells) &&
		a.Id == b.Id && a.Right == b.Right && a.Level == b.Level && a.Low == b.Low && a.High == b.High && a.End == b.End && a.Dsn == b.Dsn && a.Set.Low == b.Set.Low
}

// gets checks what Get answers of the bytes of a page.
func gets(t *testing.T, name, s string, want api.Page) {
	t.Helper()
	if got, e := page.Get(s); e != api.OK || !alike(got, want) {
		t.Errorf("%s: Get %s, %v", name, show(got), e)
	}
}

// refusedBytes checks that Get refuses a string.
func refusedBytes(t *testing.T, name, s string) {
	t.Helper()
	if got, e := page.Get(s); e != api.ErrPage || !alike(got, api.Page{}) {
		t.Errorf("%s: Get %s, %v", name, show(got), e)
	}
}

// P11.1

func TestCheck(t *testing.T) {
	for _, p := range valid() {
		if e := page.Check(p); e != api.OK || !plainRight(p) {
			t.Errorf("%s: %v", show(p), e)
		}
	}
	for name, p := range invalid() {
		if e := page.Check(p); e != api.ErrPage || plainRight(p) {
			t.Errorf("%s: %s: %v", name, show(p), e)
		}
	}
}

// Values of all fields, in all combinations, are held against the Terms.
func TestCheckCombined(t *testing.T) {
	type bounds struct {
		low, high string
		end       bool
	}
	ids, rights := []uint64{0, 1, 400, 401}, []uint64{0, 1, 2, 400, 401}
	levels, dsns := []uint8{0, 1, 10, 11}, []uint64{0, maxLsn, maxLsn + 1}
	ranges := []bounds{{}, {high: "b"}, {high: "b", end: true}, {low: "b"}, {low: "b", end: true}, {"b", "b", true}, {"b", "d", true}, {"b", "d", false}, {low: long(maxBound)}, {low: long(maxBound + 1)}, {high: long(maxBound), end: true}, {high: long(maxBound + 1), end: true}}
	sets := []api.Lsns{{}, {Low: 1}, {In: []uint64{2}}, {Low: 2, In: []uint64{2}}, {Low: maxLsn}, {In: []uint64{maxLsn + 1}}}
	lists := [][]api.Cell{nil, row("", child(1)), row("b", child(1)), row("b", "x"), row("b", child(1), "c", child(2)), row("b", child(1), "d", child(2)), row("b", child(1), "b", child(2)), row(long(maxBound), child(3)), row("", child(1), long(maxKey), "")}
	right := 0
	for _, id := range ids {
		for _, toRight := range rights {
			for _, level := range levels {
				for _, dsn := range dsns {
					for _, r := range ranges {
						for _, set := range sets {
							for _, l := range lists {
								p := api.Page{Id: id, Right: toRight, Level: level, Low: r.low, High: r.high, End: r.end, Dsn: dsn, Set: set, Cells: l}
								want := api.ErrPage
								if plainRight(p) {
									want = api.OK
									right++
								}
								if e := page.Check(p); e != want {
									t.Fatalf("%s: %v, not %v", show(p), e, want)
								}
							}
						}
					}
				}
			}
		}
	}
	if right < 500 {
		t.Error("only", right, "valid pages")
	}
}

func TestRange(t *testing.T) {
	all := valid()
	for _, p := range invalid() {
		all = append(all, p)
	}
	for _, p := range append(all, api.Page{Low: "z", High: "a", End: true}, api.Page{High: "a"}, api.Page{Low: long(5000), High: long(70000)}) {
		if got := page.Range(p); got != (api.Range{From: p.Low, To: p.High, End: p.End}) {
			t.Errorf("%s: %v", show(p), got)
		}
	}
}

func TestSame(t *testing.T) {
	all := append(valid(), api.Page{})
	for _, p := range invalid() {
		all = append(all, p)
	}
	for _, a := range all {
		for _, b := range all {
			if got := page.Same(a, b); got != alike(a, b) {
				t.Errorf("%s and %s: %v", show(a), show(b), got)
			}
		}
		if !page.Same(a, clone(a)) {
			t.Errorf("%s and a copy", show(a))
		}
	}
	empty := api.Page{Set: api.Lsns{In: []uint64{}}, Cells: []api.Cell{}}
	if !page.Same(api.Page{}, empty) || !page.Same(empty, api.Page{}) {
		t.Error("nil and empty")
	}
}

// Each field alone tells two pages apart, valid or not.
func TestSameFields(t *testing.T) {
	turns := map[string]func(p *api.Page){
		"Id":       func(p *api.Page) { p.Id ^= 1 << 40 },
		"Right":    func(p *api.Page) { p.Right ^= 1 << 40 },
		"Level":    func(p *api.Page) { p.Level ^= 1 << 7 },
		"Low":      func(p *api.Page) { p.Low += "\x00" },
		"High":     func(p *api.Page) { p.High += "\x00" },
		"End":      func(p *api.Page) { p.End = !p.End },
		"Dsn":      func(p *api.Page) { p.Dsn ^= 1 << 63 },
		"Set.Low":  func(p *api.Page) { p.Set.Low ^= 1 << 63 },
		"Set.In":   func(p *api.Page) { p.Set.In = append(p.Set.In, 0) },
		"a number": func(p *api.Page) { p.Set.In[len(p.Set.In)-1] ^= 1 << 63 },
		"Cells":    func(p *api.Page) { p.Cells = append(p.Cells, api.Cell{}) },
		"a key":    func(p *api.Page) { p.Cells[len(p.Cells)-1].Key += "\x00" },
		"a value":  func(p *api.Page) { p.Cells[len(p.Cells)-1].Value += "\x00" },
	}
	broken := with(leaf(), func(p *api.Page) { p.Id, p.Cells[0].Key, p.Set.In[0] = 0, "z", 99 })
	for _, p := range []api.Page{leaf(), with(inner(), func(p *api.Page) { p.Set.In = []uint64{1} }), broken} {
		for name, turn := range turns {
			other := with(p, turn)
			if page.Same(p, other) || page.Same(other, p) {
				t.Errorf("%s: %s and %s", name, show(p), show(other))
			}
		}
	}
}

// P11.2

func TestPut(t *testing.T) {
	for _, p := range valid() {
		s, e := page.Put(p)
		if e != api.OK || s != plainBytes(p) {
			t.Errorf("%s: %x, %v", show(p), s, e)
		}
		gets(t, show(p), s, p)
	}
	for name, p := range invalid() {
		if s, e := page.Put(p); s != "" || e != api.ErrPage {
			t.Errorf("%s: %x, %v", name, s, e)
		}
	}
}

func TestPutMany(t *testing.T) {
	leafOf := func(n int) api.Page {
		return api.Page{Id: 1, Dsn: 3, Set: api.Lsns{Low: 1, In: []uint64{3}}, Cells: rise(n, "v")}
	}
	innerOf := func(n int) api.Page {
		return api.Page{Id: 1, Level: 1, Low: "\x00\x00\x00", Cells: rise(n, child(7))}
	}
	for _, of := range []func(n int) api.Page{leafOf, innerOf} {
		p := of(maxCells)
		s, e := page.Put(p)
		if e != api.OK || s != plainBytes(p) {
			t.Errorf("%s: %d bytes, %v", show(p), len(s), e)
		}
		gets(t, "as many as there may be", s, p)
		p = of(maxCells + 1)
		if e := page.Check(p); e != api.OK {
			t.Errorf("%s: %v", show(p), e)
		}
		if s, e := page.Put(p); s != "" || e != api.ErrFull {
			t.Errorf("%s: %d bytes, %v", show(p), len(s), e)
		}
		p.Right = 1
		if s, e := page.Put(p); s != "" || e != api.ErrPage {
			t.Errorf("%s: %d bytes, %v", show(p), len(s), e)
		}
	}
}

func TestGetRefuses(t *testing.T) {
	none := plainBytes(api.Page{Id: 1})
	for _, c := range [][2]string{
		{"no bytes", ""},
		{"one byte", "\x00"},
		{"zeros", strings.Repeat("\x00", len(none))},
		{"an end of 2", none[:9] + "\x02" + none[10:]},
		{"an end of 255", none[:9] + "\xff" + none[10:]},
		{"an end of 1 alone", none[:9] + "\x01" + none[10:]},
		{"no set and no cells", none[:22]},
		{"no cells", none[:32]},
		{"the cells alone", none[:22] + "\x00\x00"},
		{"a low that is longer than all", none[:18] + "\x02\x01" + none[20:]},
		{"a set that is larger than all", none[:30] + "\x00\x02" + none[32:]},
		{"a set that is too large", none[:30] + "\x03\xe9" + strings.Repeat("\x00", 8*1001) + "\x00\x00"},
		{"a cell that is not there", none[:32] + "\x00\x01"},
		{"a page behind", none + none},
	} {
		refusedBytes(t, c[0], c[1])
	}
	end := plainBytes(leaf())
	for _, by := range []string{"\x02", "\x03", "\x81", "\xff"} {
		refusedBytes(t, "another end", end[:9]+by+end[10:])
	}
	slot := plainBytes(with(leaf(), func(p *api.Page) { p.Set.In, p.Low = nil, "" }))
	at := len(slot) - len("\x00\x00\x00\x00\x00\x00\x00\x06\x00\x01b\x00\x01x\x00\x01c\x00\x00")
	gets(t, "right slots", slot[:at]+"\x00\x00\x00\x00\x00\x00\x00\x06"+slot[at+8:], with(leaf(), func(p *api.Page) { p.Set.In, p.Low = nil, "" }))
	refusedBytes(t, "wrong slots", slot[:at]+"\x00\x00\x00\x06\x00\x00\x00\x00"+slot[at+8:])
	for name, p := range invalid() {
		if fits(p) {
			refusedBytes(t, name, plainBytes(p))
		}
	}
}

// Of bytes that are cut off, prolonged or changed at one place only those are accepted that are the bytes of some valid page.
func TestGetChanged(t *testing.T) {
	accepted, refused := 0, 0
	for _, p := range []api.Page{{Id: 1}, {Id: 256, Low: "a", Dsn: 1 << 20}, leaf(), inner(), inners()[2], inners()[6], with(leaf(), func(p *api.Page) { p.Cells = nil })} {
		b := plainBytes(p)
		for n := range len(b) {
			refusedBytes(t, show(p)+", cut off", b[:n])
			refusedBytes(t, show(p)+", one byte left out", b[:n]+b[n+1:])
		}
		for _, more := range []string{"\x00", "x", "\x00\x00", "\x00\x00\x00\x00", b} {
			refusedBytes(t, show(p)+", prolonged", b+more)
		}
		for i := range len(b) {
			for by := 1; by < 256; by++ {
				s := b[:i] + string([]byte{b[i] ^ byte(by)}) + b[i+1:]
				got, e := page.Get(s)
				switch {
				case e == api.OK && plainRight(got) && plainBytes(got) == s:
					accepted++
				case e == api.ErrPage && alike(got, api.Page{}):
					refused++
				default:
					t.Errorf("%s, changed at %d: %s, %v of %x", show(p), i, show(got), e, s)
				}
			}
		}
	}
	if accepted < 1000 || refused < 1000 {
		t.Error(accepted, "accepted,", refused, "refused")
	}
}

// random returns a page of small parts, which is valid or nearly so.
func random(r *rand.Rand) api.Page {
	words := []string{"", "\x00", "a", "a\x00", "b", "c"}
	p := api.Page{Id: uint64(r.Intn(4)), Dsn: uint64(r.Intn(3)), Level: uint8(r.Intn(2)), Low: words[r.Intn(3)]}
	if r.Intn(2) > 0 {
		p.Right, p.High, p.End = uint64(r.Intn(4)), words[2+r.Intn(4)], r.Intn(8) > 0
	}
	if r.Intn(3) == 0 || p.Level == 0 {
		p.Set.Low = uint64(r.Intn(3))
	}
	for n := range uint64(6) {
		if p.Level == 0 && r.Intn(3) == 0 {
			p.Set.In = append(p.Set.In, n+1)
		}
	}
	for _, w := range words {
		if r.Intn(2) > 0 && w >= p.Low {
			p.Cells = append(p.Cells, api.Cell{Key: w, Value: child(uint64(r.Intn(30)))})
		}
	}
	return p
}

func TestRandom(t *testing.T) {
	r := rand.New(rand.NewSource(11))
	right := 0
	for range 20000 {
		p := random(r)
		s, e := page.Put(p)
		if !plainRight(p) {
			if s != "" || e != api.ErrPage || page.Check(p) != api.ErrPage {
				t.Errorf("%s: %x, %v", show(p), s, e)
			}
			refusedBytes(t, show(p), plainBytes(p))
			continue
		}
		right++
		if e != api.OK || s != plainBytes(p) || page.Check(p) != api.OK {
			t.Errorf("%s: %x, %v", show(p), s, e)
		}
		gets(t, show(p), s, p)
	}
	if right < 1000 {
		t.Error("only", right, "valid pages")
	}
}

func TestGetRandom(t *testing.T) {
	r := rand.New(rand.NewSource(12))
	for range 20000 {
		b := make([]byte, r.Intn(60))
		for i := range b {
			b[i] = byte(r.Intn(2))
		}
		if got, e := page.Get(string(b)); e == api.OK && (!plainRight(got) || plainBytes(got) != string(b)) || e != api.OK && (e != api.ErrPage || !alike(got, api.Page{})) {
			t.Errorf("%s, %v of %x", show(got), e, b)
		}
	}
}

// P11.3

// keys returns what is to be asked of a page: its keys and bounds, and what is next to them.
func keys(p api.Page) []string {
	all := []string{"", "\x00", "a", "b", "ba", "c", "l", "m", "m\xff", "n", "p", "q", "z", "\xff", long(maxKey), long(maxBound), long(maxBound + 1), "m" + long(5000)}
	near := func(k string) { all = append(all, k, k+"\x00", k+"\xff", k[:len(k)/2]) }
	near(p.Low)
	near(p.High)
	for i, c := range p.Cells {
		if i < 4 || i+4 > len(p.Cells) {
			near(c.Key)
		}
	}
	slices.Sort(all)
	return slices.Compact(all)
}

func TestChild(t *testing.T) {
	for _, p := range inners() {
		for _, k := range keys(p) {
			var want uint64
			e := api.ErrPage
			if plainHas(p, k) {
				e = api.OK
				for _, c := range p.Cells {
					if c.Key <= k {
						want = binary.BigEndian.Uint64([]byte(c.Value))
					}
				}
			}
			if got, f := page.Child(p, k); got != want || f != e {
				t.Errorf("%s: %q: %d, %v, not %d, %v", show(p), k, got, f, want, e)
			}
		}
	}
}

func TestChildRefuses(t *testing.T) {
	refused := func(name string, p api.Page) {
		t.Helper()
		for _, k := range keys(p) {
			if got, e := page.Child(p, k); got != 0 || e != api.ErrPage {
				t.Errorf("%s: %s: %q: %d, %v", name, show(p), k, got, e)
			}
		}
	}
	for _, p := range leaves() {
		refused("a leaf", p)
	}
	refused("a leaf with children", with(inner(), func(p *api.Page) { p.Level = 0 }))
	for name, p := range invalid() {
		refused(name, p)
	}
}

func TestKid(t *testing.T) {
	for id := uint64(1); id <= maxId; id++ {
		if s, e := page.Kid(id); s != child(id) || e != api.OK {
			t.Errorf("%d: %x, %v", id, s, e)
		}
	}
	for _, id := range []uint64{0, maxId + 1, maxId + 2, 512, 65536, 1 << 32, 1<<32 + 1, maxLsn, 1 << 56, 1<<63 + 1, math.MaxUint64} {
		if s, e := page.Kid(id); s != "" || e != api.ErrPage {
			t.Errorf("%d: %x, %v", id, s, e)
		}
	}
}

func TestId(t *testing.T) {
	for id := uint64(1); id <= maxId; id++ {
		if got, e := page.Id(child(id)); got != id || e != api.OK {
			t.Errorf("%d: %d, %v", id, got, e)
		}
	}
	values := noChildren()
	for n := range 70 {
		if n != 8 {
			values = append(values, strings.Repeat("\x00", n)+"\x01", strings.Repeat("\x00", n), "\x00\x00\x00\x00\x00\x00\x00\x01"+long(n+1))
		}
	}
	for i := range 8 {
		for by := range 256 {
			b := []byte(child(0))
			b[i] = byte(by)
			values = append(values, string(b))
		}
	}
	for _, v := range append(values, long(100000)) {
		if got, e := page.Id(v); !plainChild(v) && (got != 0 || e != api.ErrPage) || plainChild(v) && (child(got) != v || e != api.OK) {
			t.Errorf("%q: %d, %v", v[:min(len(v), 20)], got, e)
		}
	}
}

// P11.4

func TestBytesTellApart(t *testing.T) {
	all := valid()
	r := rand.New(rand.NewSource(13))
	for len(all) < 400 {
		if p := random(r); plainRight(p) {
			all = append(all, p)
		}
	}
	all = append(all, api.Page{Id: 1, Low: "ab"}, api.Page{Id: 1, Right: 2, Low: "", High: "ab", End: true}, api.Page{Id: 1, Right: 2, Low: "a", High: "b", End: true})
	for i, a := range all {
		one, e := page.Put(a)
		if e != api.OK {
			t.Errorf("%s: %v", show(a), e)
		}
		for _, b := range all[i:] {
			if other, _ := page.Put(b); (one == other) != page.Same(a, b) {
				t.Errorf("%s and %s: %x and %x", show(a), show(b), one, other)
			}
		}
	}
}

// Each key of the range has one child: that of the one cell whose key is the greatest that is not above it.
func TestOneChild(t *testing.T) {
	for _, p := range inners() {
		for _, k := range keys(p) {
			got, e := page.Child(p, k)
			if !plainHas(p, k) {
				continue
			}
			var having []string
			for i, c := range p.Cells {
				if c.Key <= k && (i+1 == len(p.Cells) || k < p.Cells[i+1].Key) {
					having = append(having, c.Value)
				}
			}
			if e != api.OK || len(having) != 1 || child(got) != having[0] {
				t.Errorf("%s: %q: %d, %v, %q", show(p), k, got, e, having)
			}
		}
	}
}

// R5: what is handed in is neither changed nor shared, its spare capacity included.

func TestNothingIsChanged(t *testing.T) {
	for _, p := range []api.Page{leaf(), inner(), with(leaf(), func(p *api.Page) { p.Id = 0 })} {
		p.Set.In, p.Cells = append(p.Set.In, 77, 78), append(p.Cells, row("spare", "1", "spare", "2")...)
		before := clone(p)
		given := p
		given.Set.In, given.Cells = p.Set.In[:len(p.Set.In)-2], p.Cells[:len(p.Cells)-2]
		page.Check(given)
		page.Range(given)
		page.Same(given, given)
		page.Put(given)
		page.Child(given, "m")
		if !alike(p, before) {
			t.Errorf("%s became %s", show(before), show(p))
		}
	}
}

func TestAnswersApart(t *testing.T) {
	for _, p := range []api.Page{leaf(), inner(), leaves()[15]} {
		b := plainBytes(p)
		got, _ := page.Get(b)
		for i := range got.Set.In {
			got.Set.In[i] = 0
		}
		for i := range got.Cells {
			got.Cells[i] = api.Cell{}
		}
		gets(t, "again", b, p)
	}
}

// The chapter's examples.
func TestExamples(t *testing.T) {
	if s, e := page.Kid(258); s != "\x00\x00\x00\x00\x00\x00\x01\x02" || e != api.OK {
		t.Errorf("%x, %v", s, e)
	}
	if n, e := page.Id("\x00\x00\x00\x00\x00\x00\x00\x09"); n != 9 || e != api.OK {
		t.Error(n, e)
	}
	if n, e := page.Id("\x00\x00\x00\x00\x00\x00\x00\x00"); n != 0 || e != api.ErrPage {
		t.Error(n, e)
	}
	for want, pages := range map[api.Errno][]api.Page{api.OK: {{Id: 1}}, api.ErrPage: {{Id: 1, Right: 2}, {Id: 1, End: true, High: "a"}}} {
		for _, p := range pages {
			if e := page.Check(p); e != want {
				t.Errorf("%s: %v", show(p), e)
			}
		}
	}
	want := "\x00\x00\x00\x01\x00\x00\x00\x00" + "\x00\x00" + strings.Repeat("\x00", 8) + "\x00\x00\x00\x00" + strings.Repeat("\x00", 10) + "\x00\x00"
	if s, e := page.Put(api.Page{Id: 1}); s != want || e != api.OK {
		t.Errorf("%x, %v", s, e)
	}
	p := api.Page{Id: 1, Level: 1, Cells: row("", child(2), "m", child(3))}
	for k, want := range map[string]uint64{"a": 2, "m": 3, "z": 3} {
		if n, e := page.Child(p, k); n != want || e != api.OK {
			t.Error(k, n, e)
		}
	}
}
