package letter_test

import (
	"encoding/binary"
	"fmt"
	"hash/crc32"
	"math"
	"math/rand"
	"slices"
	"strings"
	"testing"

	"lockkeeper/api"
	"lockkeeper/letter"
)

const (
	maxKey   = 512
	maxBound = 513
	maxValue = 2048
	maxRows  = 64
	maxLsn   = 1 << 48
)

// The kinds by the numbers that the chapter gives them.
const (
	hello, do, get, scan, marks, check = 1, 2, 3, 4, 5, 6
	welcome, done, got, rowed, oldest  = 17, 18, 19, 20, 21
)

func kinds() []uint8 {
	return []uint8{hello, do, get, scan, marks, check, welcome, done, got, rowed, oldest}
}

func long(n int) string { return strings.Repeat("k", n) }

// row makes cells of keys and values by turns.
func row(words ...string) []api.Cell {
	var l []api.Cell
	for i := 0; i+1 < len(words); i += 2 {
		l = append(l, api.Cell{Key: words[i], Value: words[i+1]})
	}
	return l
}

// rise makes so many cells with ascending keys of two bytes and the same value.
func rise(n int, value string) []api.Cell {
	var l []api.Cell
	for i := range n {
		l = append(l, api.Cell{Key: string([]byte{byte(i >> 8), byte(i)}), Value: value})
	}
	return l
}

// told is a message, of which not more is told than can be read.
func told(l api.Letter) string {
	s := fmt.Sprintf("%+v", l)
	return s[:min(len(s), 300)]
}

// The chapter's Terms once more, in the plainest way.

func plainKey(s string) bool { return s != "" && len(s) <= maxKey }

func plainRange(r api.Range) bool {
	if len(r.From) > maxBound || len(r.To) > maxBound {
		return false
	}
	if r.End {
		return r.From < r.To
	}
	return r.To == ""
}

func plainRows(l []api.Cell) bool {
	for i, c := range l {
		if len(c.Key) > maxKey || len(c.Value) > maxValue || i > 0 && l[i-1].Key >= c.Key {
			return false
		}
	}
	return len(l) <= maxRows
}

// chosen returns a message with the fields of its kind alone, and whether the kind's conditions hold of them.
func chosen(l api.Letter) (api.Letter, bool) {
	c := api.Letter{Kind: l.Kind, Te: l.Te, De: l.De}
	switch l.Kind {
	case hello:
		c.A = l.A
		return c, l.De == 0
	case do:
		c.Op = l.Op
		return c, l.Op.Lsn != 0 && plainKey(l.Op.Key) && len(l.Op.Value) <= maxValue && !(l.Op.Del && l.Op.Value != "")
	case get:
		c.N, c.Op.Key = l.N, l.Op.Key
		return c, l.N != 0 && plainKey(l.Op.Key)
	case scan:
		c.N, c.R, c.A = l.N, l.R, l.A
		return c, l.N != 0 && plainRange(l.R) && 1 <= l.A && l.A <= maxRows
	case marks, oldest:
		c.A, c.B = l.A, l.B
		return c, true
	case check:
		c.A = l.A
		return c, true
	case welcome:
		return c, l.De != 0
	case done:
		c.N = l.N
		return c, l.N != 0
	case got:
		c.N, c.Is, c.Op.Value = l.N, l.Is, l.Op.Value
		return c, l.N != 0 && len(l.Op.Value) <= maxValue && (l.Is || l.Op.Value == "")
	case rowed:
		c.N, c.Is, c.Cells = l.N, l.Is, l.Cells
		return c, l.N != 0 && plainRows(l.Cells)
	}
	return c, false
}

func alike(a, b api.Letter) bool {
	same := slices.Equal(a.Cells, b.Cells)
	a.Cells, b.Cells = nil, nil
	return same && fmt.Sprintf("%#v", a) == fmt.Sprintf("%#v", b)
}

func plainRight(l api.Letter) bool {
	for _, n := range []uint64{l.Te, l.De, l.N, l.Op.Lsn, l.A, l.B} {
		if n > maxLsn {
			return false
		}
	}
	c, holds := chosen(l)
	return holds && l.Te != 0 && alike(c, l)
}

type plain []byte

func (b *plain) number(n uint64) { *b = binary.BigEndian.AppendUint64(*b, n) }

func (b *plain) truth(is bool) {
	if is {
		*b = append(*b, 1)
		return
	}
	*b = append(*b, 0)
}

func (b *plain) text(s string) {
	*b = append(binary.BigEndian.AppendUint16(*b, uint16(len(s))), s...)
}

func (b *plain) rows(l []api.Cell) {
	var slots, body plain
	for _, c := range l {
		slots = binary.BigEndian.AppendUint32(slots, uint32(len(body)))
		body.text(c.Key)
		body.text(c.Value)
	}
	*b = binary.BigEndian.AppendUint32(*b, uint32(2+len(slots)+len(body)))
	*b = binary.BigEndian.AppendUint16(*b, uint16(len(l)))
	*b = append(append(*b, slots...), body...)
}

// sealed returns bytes with their checksum behind them.
func sealed(b []byte) string {
	sum := crc32.Checksum(b, crc32.MakeTable(crc32.Castagnoli))
	return string(binary.LittleEndian.AppendUint32(slices.Clone(b), sum))
}

// plainBytes are the bytes that a message has if it is valid.
func plainBytes(l api.Letter) string {
	b := plain{l.Kind}
	b.number(l.Te)
	b.number(l.De)
	switch l.Kind {
	case hello, check:
		b.number(l.A)
	case do:
		b.number(l.Op.Lsn)
		b.truth(l.Op.Del)
		b.text(l.Op.Key)
		b.text(l.Op.Value)
	case get:
		b.number(l.N)
		b.text(l.Op.Key)
	case scan:
		b.number(l.N)
		b.text(l.R.From)
		b.text(l.R.To)
		b.truth(l.R.End)
		b.number(l.A)
	case marks, oldest:
		b.number(l.A)
		b.number(l.B)
	case done:
		b.number(l.N)
	case got:
		b.number(l.N)
		b.truth(l.Is)
		b.text(l.Op.Value)
	case rowed:
		b.number(l.N)
		b.truth(l.Is)
		b.rows(l.Cells)
	}
	return sealed(b)
}

// What the tests try for each field: valid for some kind, and never.

func numbers() []uint64 { return []uint64{0, 1, 2, 256, maxLsn - 1, maxLsn} }

func wrongNumbers() []uint64 { return []uint64{maxLsn + 1, 1 << 49, 1 << 63, math.MaxUint64} }

func words() []string { return []string{"", "\x00", "k", "k\x00", "\xff\xfe", long(255), long(256)} }

func ranges() []api.Range {
	return []api.Range{
		{}, {From: "a"}, {To: "a", End: true}, {From: "a", To: "b", End: true}, {From: "a", To: "a\x00", End: true}, {From: "\x7f", To: "\x80", End: true},
		{From: long(maxBound)}, {To: long(maxBound), End: true}, {From: long(maxKey), To: long(maxBound), End: true},
	}
}

func wrongRanges() []api.Range {
	return []api.Range{
		{End: true}, {To: "a"}, {From: "a", End: true}, {From: "a", To: "a", End: true}, {From: "b", To: "a", End: true}, {From: "a", To: "b"}, {From: "a\x00", To: "a", End: true},
		{From: "\x80", To: "\x7f", End: true}, {From: long(maxBound + 1)}, {To: long(maxBound + 1), End: true}, {From: "a", To: "b" + long(maxBound), End: true}, {From: long(70000)},
	}
}

func rows() [][]api.Cell {
	return [][]api.Cell{
		nil, {}, row("", ""), row("a", "x"), row("a", "", "b", "y", "c", ""), row("", "", "\x00", ""), row(long(maxKey), long(maxValue)),
		rise(maxRows-1, ""), rise(maxRows, "v"), rise(maxRows, long(maxValue)), row("\x7f", "", "\x80", ""), row("a", "1", long(maxKey), "2"),
	}
}

func wrongRows() [][]api.Cell {
	return [][]api.Cell{
		row("a", "", "a", ""), row("b", "", "a", ""), row("a", "", "", ""), row("", "", "", ""), row("a", "", "c", "", "b", ""), row("\xff", "", "\x7f", ""),
		row(long(maxKey+1), ""), row("a", "", long(maxKey+1), ""), row(long(maxKey+1), "", "z", ""), row("", long(maxValue+1)), row("a", "", "b", long(maxValue+1)),
		row(long(maxBound+1), ""), rise(maxRows+1, ""), rise(300, ""), rise(70000, ""), row(long(70000), ""), row("", long(70000)),
	}
}

// base is a valid message of a kind, with as little in it as there may be.
func base(kind uint8) api.Letter {
	l := api.Letter{Kind: kind, Te: 1}
	switch kind {
	case do:
		l.Op = api.Op{Lsn: 1, Key: "k"}
	case get:
		l.N, l.Op.Key = 1, "k"
	case scan:
		l.N, l.A = 1, 1
	case welcome:
		l.De = 1
	case done, got, rowed:
		l.N = 1
	}
	return l
}

// variants are messages that differ from one of them in one field, in two, or in an operation's or a range's parts; some are valid.
func variants(l api.Letter) []api.Letter {
	var all []api.Letter
	add := func(change func(l *api.Letter)) {
		m := l
		change(&m)
		all = append(all, m)
	}
	for _, n := range append(numbers(), wrongNumbers()...) {
		add(func(m *api.Letter) { m.Te = n })
		add(func(m *api.Letter) { m.De = n })
		add(func(m *api.Letter) { m.N = n })
		add(func(m *api.Letter) { m.A = n })
		add(func(m *api.Letter) { m.B = n })
		add(func(m *api.Letter) { m.Op.Lsn = n })
	}
	for _, n := range []uint64{maxRows - 1, maxRows, maxRows + 1, 65536} {
		add(func(m *api.Letter) { m.A = n })
		add(func(m *api.Letter) { m.A, m.B = n, n+1 })
	}
	for _, s := range append(words(), long(maxKey), long(maxKey+1), long(maxValue), long(maxValue+1), long(65535), long(65536), long(70000)) {
		add(func(m *api.Letter) { m.Op.Key = s })
		add(func(m *api.Letter) { m.Op.Value = s })
		add(func(m *api.Letter) { m.Op.Value, m.Is = s, true })
		add(func(m *api.Letter) { m.Op.Value, m.Op.Del = s, true })
	}
	add(func(m *api.Letter) { m.Is = true })
	add(func(m *api.Letter) { m.Op.Del = true })
	for _, r := range append(ranges(), wrongRanges()...) {
		add(func(m *api.Letter) { m.R = r })
	}
	for _, c := range append(rows(), wrongRows()...) {
		add(func(m *api.Letter) { m.Cells = c })
		add(func(m *api.Letter) { m.Cells, m.Is = c, true })
	}
	return all
}

// all are many messages of each kind, and of kinds that are none; some are valid.
func all() []api.Letter {
	var l []api.Letter
	for _, kind := range kinds() {
		l = append(l, base(kind))
		l = append(l, variants(base(kind))...)
	}
	return l
}

// right are those of them that are valid.
func right() []api.Letter {
	return slices.DeleteFunc(all(), func(l api.Letter) bool { return !plainRight(l) })
}

func wrong() []api.Letter { return slices.DeleteFunc(all(), plainRight) }

// random is a message made at random; about a half of them are valid.
func random(r *rand.Rand) api.Letter {
	number := func() uint64 {
		if r.Intn(40) == 0 {
			return r.Uint64()
		}
		return numbers()[r.Intn(len(numbers()))] ^ uint64(r.Intn(3))
	}
	word := func() string { return words()[r.Intn(len(words()))] }
	l := api.Letter{Kind: kinds()[r.Intn(len(kinds()))], Te: number(), De: number(), N: number(), A: number(), B: number(), Is: r.Intn(2) == 0}
	l.Op = api.Op{Lsn: number(), Del: r.Intn(2) == 0, Key: word(), Value: word()}
	l.R = ranges()[r.Intn(len(ranges()))]
	l.Cells = rows()[r.Intn(len(rows())-3)]
	if r.Intn(20) > 0 {
		l, _ = chosen(l)
	}
	return l
}

// P19.1

func wantCheck(l api.Letter) api.Errno {
	if plainRight(l) {
		return api.OK
	}
	return api.ErrLetter
}

func TestCheck(t *testing.T) {
	valid := 0
	for _, l := range all() {
		if e := letter.Check(l); e != wantCheck(l) {
			t.Errorf("%s: %v", told(l), e)
		}
		if plainRight(l) {
			valid++
		}
	}
	if n := len(all()); valid < 150 || n-valid < 800 {
		t.Errorf("%d of %d are valid", valid, n)
	}
}

func TestCheckRandom(t *testing.T) {
	r := rand.New(rand.NewSource(191))
	valid := 0
	for range 20000 {
		l := random(r)
		if e := letter.Check(l); e != wantCheck(l) {
			t.Fatalf("%s: %v", told(l), e)
		}
		if plainRight(l) {
			valid++
		}
	}
	if valid < 5000 || valid > 15000 {
		t.Error(valid, "are valid")
	}
}

// There are eleven kinds, whatever else a message has.
func TestKinds(t *testing.T) {
	for kind := range 256 {
		isKind := false
		for _, like := range kinds() {
			isKind = isKind || int(like) == kind
			l := base(like)
			l.Kind = uint8(kind)
			if e := letter.Check(l); e != wantCheck(l) || e == api.OK && !slices.Contains(kinds(), l.Kind) {
				t.Errorf("%s: %v", told(l), e)
			}
		}
		l := base(uint8(kind))
		if e := letter.Check(l); isKind != (e == api.OK) {
			t.Errorf("%s: %v", told(l), e)
		}
		if _, e := letter.Get(plainBytes(l)); isKind != (e == api.OK) {
			t.Errorf("Get of %s: %v", told(l), e)
		}
	}
	if e := letter.Check(api.Letter{}); e != api.ErrLetter {
		t.Error(e)
	}
}

// A field that a kind does not have is zero.
func TestOtherFields(t *testing.T) {
	for name, w := range map[string]struct {
		change func(l *api.Letter)
		has    []uint8
	}{
		"N":            {func(l *api.Letter) { l.N = 2 }, []uint8{get, scan, done, got, rowed}},
		"A":            {func(l *api.Letter) { l.A = 2 }, []uint8{hello, scan, marks, check, oldest}},
		"B":            {func(l *api.Letter) { l.B = 2 }, []uint8{marks, oldest}},
		"Is":           {func(l *api.Letter) { l.Is = true }, []uint8{got, rowed}},
		"a Lsn":        {func(l *api.Letter) { l.Op.Lsn = 2 }, []uint8{do}},
		"Del":          {func(l *api.Letter) { l.Op.Del = true }, []uint8{do}},
		"a Key":        {func(l *api.Letter) { l.Op.Key = "x" }, []uint8{do, get}},
		"a Value":      {func(l *api.Letter) { l.Op.Value, l.Is = "x", l.Kind == got }, []uint8{do, got}},
		"From":         {func(l *api.Letter) { l.R.From = "x" }, []uint8{scan}},
		"To":           {func(l *api.Letter) { l.R.To, l.R.End = "x", l.Kind == scan }, []uint8{scan}},
		"To with End":  {func(l *api.Letter) { l.R.To, l.R.End = "x", true }, []uint8{scan}},
		"End alone":    {func(l *api.Letter) { l.R.End = true }, nil},
		"To alone":     {func(l *api.Letter) { l.R.To = "x" }, nil},
		"Cells":        {func(l *api.Letter) { l.Cells = row("a", "b") }, []uint8{rowed}},
		"empty Cells":  {func(l *api.Letter) { l.Cells = []api.Cell{} }, kinds()},
		"an empty one": {func(l *api.Letter) { l.Cells = row("", "") }, []uint8{rowed}},
	} {
		for _, kind := range kinds() {
			l := base(kind)
			w.change(&l)
			e := letter.Check(l)
			if want := slices.Contains(w.has, kind); want != (e == api.OK) || !want && e != api.ErrLetter {
				t.Errorf("%d with %s: %v", kind, name, e)
			}
		}
	}
}

// edge is a message that just meets the conditions of the table, or just misses them.
type edge struct {
	l    api.Letter
	want bool
}

func op(n uint64, key, value string, del bool) api.Op {
	return api.Op{Lsn: n, Key: key, Value: value, Del: del}
}

// asked are edges of what the transaction component says, answered ones of what the data component does.
func asked() map[string]edge {
	return map[string]edge{
		"hello with De":                     {api.Letter{Kind: hello, Te: 1, De: 1}, false},
		"hello of the greatest end":         {api.Letter{Kind: hello, Te: maxLsn, A: maxLsn}, true},
		"hello of too great an end":         {api.Letter{Kind: hello, Te: 1, A: maxLsn + 1}, false},
		"hello without Te":                  {api.Letter{Kind: hello, A: 1}, false},
		"an operation without De":           {api.Letter{Kind: do, Te: 1, Op: op(1, "k", "", false)}, true},
		"an operation without Te":           {api.Letter{Kind: do, De: 1, Op: op(1, "k", "", false)}, false},
		"the operation 0":                   {api.Letter{Kind: do, Te: 1, Op: op(0, "k", "v", false)}, false},
		"the greatest operation":            {api.Letter{Kind: do, Te: 1, Op: op(maxLsn, long(maxKey), long(maxValue), false)}, true},
		"too great an operation":            {api.Letter{Kind: do, Te: 1, Op: op(maxLsn+1, "k", "v", false)}, false},
		"an operation on no key":            {api.Letter{Kind: do, Te: 1, Op: op(1, "", "v", false)}, false},
		"on too long a key":                 {api.Letter{Kind: do, Te: 1, Op: op(1, long(maxKey+1), "v", false)}, false},
		"of too long a value":               {api.Letter{Kind: do, Te: 1, Op: op(1, "k", long(maxValue+1), false)}, false},
		"a deletion":                        {api.Letter{Kind: do, Te: 1, Op: op(maxLsn, long(maxKey), "", true)}, true},
		"a deletion with a value":           {api.Letter{Kind: do, Te: 1, Op: op(1, "k", "v", true)}, false},
		"a deletion of no key":              {api.Letter{Kind: do, Te: 1, Op: op(1, "", "", true)}, false},
		"a get of no number":                {api.Letter{Kind: get, Te: 1, Op: op(0, "k", "", false)}, false},
		"a get of no key":                   {api.Letter{Kind: get, Te: 1, N: 1}, false},
		"a get of the longest key":          {api.Letter{Kind: get, Te: 1, N: maxLsn, Op: op(0, long(maxKey), "", false)}, true},
		"a get of too long a key":           {api.Letter{Kind: get, Te: 1, N: 1, Op: op(0, long(maxKey+1), "", false)}, false},
		"a get of too great a number":       {api.Letter{Kind: get, Te: 1, N: maxLsn + 1, Op: op(0, "k", "", false)}, false},
		"a scan of no number":               {api.Letter{Kind: scan, Te: 1, A: 1}, false},
		"a scan of no cells":                {api.Letter{Kind: scan, Te: 1, N: 1}, false},
		"a scan of one cell":                {api.Letter{Kind: scan, Te: 1, N: 1, A: 1}, true},
		"a scan of the most cells":          {api.Letter{Kind: scan, Te: 1, N: 1, A: maxRows}, true},
		"a scan of too many cells":          {api.Letter{Kind: scan, Te: 1, N: 1, A: maxRows + 1}, false},
		"a scan of no range":                {api.Letter{Kind: scan, Te: 1, N: 1, A: 1, R: api.Range{From: "b", To: "a", End: true}}, false},
		"a scan of the longest bounds":      {api.Letter{Kind: scan, Te: 1, N: 1, A: 1, R: api.Range{From: long(maxKey), To: long(maxBound), End: true}}, true},
		"a scan of too long a bound":        {api.Letter{Kind: scan, Te: 1, N: 1, A: 1, R: api.Range{From: long(maxBound), To: long(maxBound + 1), End: true}}, false},
		"marks of nothing":                  {api.Letter{Kind: marks, Te: 1}, true},
		"marks of a low above the end":      {api.Letter{Kind: marks, Te: 1, De: 1, A: 1, B: maxLsn}, true},
		"marks of too great a low":          {api.Letter{Kind: marks, Te: 1, De: 1, A: 1, B: maxLsn + 1}, false},
		"marks of too great an end":         {api.Letter{Kind: marks, Te: 1, De: 1, A: maxLsn + 1, B: 1}, false},
		"a check of nothing":                {api.Letter{Kind: check, Te: 1}, true},
		"a check of too great a low":        {api.Letter{Kind: check, Te: 1, A: maxLsn + 1}, false},
		"a kind between the two components": {api.Letter{Kind: 7, Te: 1, De: 1}, false},
	}
}

func answered() map[string]edge {
	return map[string]edge{
		"welcome without De":               {api.Letter{Kind: welcome, Te: 1}, false},
		"welcome of the greatest epochs":   {api.Letter{Kind: welcome, Te: maxLsn, De: maxLsn}, true},
		"welcome of too great a Te":        {api.Letter{Kind: welcome, Te: maxLsn + 1, De: 1}, false},
		"welcome of too great a De":        {api.Letter{Kind: welcome, Te: 1, De: maxLsn + 1}, false},
		"the oldest of nothing":            {api.Letter{Kind: oldest, Te: 1}, true},
		"the oldest of too great a number": {api.Letter{Kind: oldest, Te: 1, A: maxLsn + 1}, false},
		"the oldest of too great a B":      {api.Letter{Kind: oldest, Te: 1, B: maxLsn + 1}, false},
		"done of no number":                {api.Letter{Kind: done, Te: 1, De: 1}, false},
		"done of the greatest number":      {api.Letter{Kind: done, Te: 1, N: maxLsn}, true},
		"done of too great a number":       {api.Letter{Kind: done, Te: 1, N: maxLsn + 1}, false},
		"got of no number":                 {api.Letter{Kind: got, Te: 1, De: 1, Is: true}, false},
		"got the longest value":            {api.Letter{Kind: got, Te: 1, N: 1, Is: true, Op: op(0, "", long(maxValue), false)}, true},
		"got too long a value":             {api.Letter{Kind: got, Te: 1, N: 1, Is: true, Op: op(0, "", long(maxValue+1), false)}, false},
		"got an empty value":               {api.Letter{Kind: got, Te: 1, N: 1, Is: true}, true},
		"got nothing":                      {api.Letter{Kind: got, Te: 1, N: 1}, true},
		"got a value that is not there":    {api.Letter{Kind: got, Te: 1, N: 1, Op: op(0, "", "v", false)}, false},
		"rows of no number":                {api.Letter{Kind: rowed, Te: 1, De: 1, Cells: row("a", "")}, false},
		"no rows":                          {api.Letter{Kind: rowed, Te: 1, N: 1}, true},
		"no rows yet":                      {api.Letter{Kind: rowed, Te: 1, N: 1, Is: true}, true},
		"the most rows":                    {api.Letter{Kind: rowed, Te: 1, N: 1, Cells: rise(maxRows, "v")}, true},
		"too many rows":                    {api.Letter{Kind: rowed, Te: 1, N: 1, Cells: rise(maxRows+1, "v")}, false},
		"a row of the longest key":         {api.Letter{Kind: rowed, Te: 1, N: 1, Cells: row(long(maxKey), "")}, true},
		"a row of a bound that is no key":  {api.Letter{Kind: rowed, Te: 1, N: 1, Cells: row(long(maxBound), "")}, false},
		"a last row that is no key":        {api.Letter{Kind: rowed, Te: 1, N: 1, Cells: row("a", "", "b", "", long(maxBound), "")}, false},
		"a row of the longest value":       {api.Letter{Kind: rowed, Te: 1, N: 1, Cells: row("", long(maxValue))}, true},
		"a row of too long a value":        {api.Letter{Kind: rowed, Te: 1, N: 1, Cells: row("", long(maxValue+1))}, false},
		"rows that do not ascend":          {api.Letter{Kind: rowed, Te: 1, N: 1, Cells: row("a", "", "c", "", "b", "")}, false},
		"rows of the same key":             {api.Letter{Kind: rowed, Te: 1, N: 1, Cells: row("a", "", "a", "")}, false},
		"rows of the same key, more of it": {api.Letter{Kind: rowed, Te: 1, N: 1, Is: true, Cells: row("a", "", "a", "")}, false},
	}
}

// The conditions of the table, edge by edge.
func TestConditions(t *testing.T) {
	for _, edges := range []map[string]edge{asked(), answered()} {
		for name, w := range edges {
			if e := letter.Check(w.l); w.want != (e == api.OK) || !w.want && e != api.ErrLetter {
				t.Errorf("%s: %v", name, e)
			}
			s, e := letter.Put(w.l)
			if w.want != (e == api.OK) || w.want != (s != "") || !w.want && e != api.ErrLetter {
				t.Errorf("%s: Put: %d bytes, %v", name, len(s), e)
			}
		}
	}
}

// Each field counts, of messages that are valid and of those that are not.
func TestSame(t *testing.T) {
	full := api.Letter{
		Kind: do, Te: 1, De: 2, N: 3, A: 4, B: 5, Is: true, Op: api.Op{Lsn: 6, Del: true, Key: "a", Value: "b"},
		R: api.Range{From: "c", To: "d", End: true}, Cells: row("e", "f", "g", "h"),
	}
	var others []api.Letter
	for _, change := range []func(l *api.Letter){
		func(l *api.Letter) {}, func(l *api.Letter) { l.Kind++ }, func(l *api.Letter) { l.Te++ }, func(l *api.Letter) { l.De++ }, func(l *api.Letter) { l.N++ },
		func(l *api.Letter) { l.A++ }, func(l *api.Letter) { l.B++ }, func(l *api.Letter) { l.Is = !l.Is }, func(l *api.Letter) { l.Op.Lsn++ },
		func(l *api.Letter) { l.Op.Del = !l.Op.Del }, func(l *api.Letter) { l.Op.Key += "x" }, func(l *api.Letter) { l.Op.Value += "x" },
		func(l *api.Letter) { l.R.From += "x" }, func(l *api.Letter) { l.R.To += "x" }, func(l *api.Letter) { l.R.End = !l.R.End },
		func(l *api.Letter) { l.Cells = row("e", "f") }, func(l *api.Letter) { l.Cells = row("e", "f", "g", "x") }, func(l *api.Letter) { l.Cells = row("x", "f", "g", "h") },
		func(l *api.Letter) { l.Cells = row("g", "h", "e", "f") }, func(l *api.Letter) { l.Cells = row("e", "f", "g", "h", "", "") }, func(l *api.Letter) { l.Cells = nil },
		func(l *api.Letter) { l.A, l.B = l.B, l.A }, func(l *api.Letter) { l.Te, l.De = l.De, l.Te }, func(l *api.Letter) { l.N, l.A = l.A, l.N },
	} {
		for _, l := range []api.Letter{full, {}, base(got), {Kind: 99, N: math.MaxUint64}} {
			change(&l)
			others = append(others, l)
		}
	}
	equal := 0
	for _, a := range others {
		for _, b := range others {
			if alike(a, b) {
				equal++
			}
			if is := letter.Same(a, b); is != alike(a, b) {
				t.Errorf("%s and %s: %v", told(a), told(b), is)
			}
		}
	}
	if equal == len(others)*len(others) || equal < len(others) {
		t.Error(equal)
	}
}

func TestSameCells(t *testing.T) {
	for _, l := range append(right(), wrong()...) {
		m := l
		m.Cells = slices.Clone(l.Cells)
		if !letter.Same(l, m) || !letter.Same(m, l) {
			t.Errorf("%s and a copy", told(l))
		}
		if len(l.Cells) == 0 {
			l.Cells, m.Cells = nil, []api.Cell{}
			if !letter.Same(l, m) || !letter.Same(m, l) {
				t.Errorf("%s: nil and empty cells", told(l))
			}
		}
	}
}

// P19.2

func TestPut(t *testing.T) {
	for _, l := range right() {
		s, e := letter.Put(l)
		if e != api.OK || s != plainBytes(l) {
			t.Errorf("%s: %.60x, %v, not %.60x", told(l), s, e, plainBytes(l))
		}
		if len(s) > api.MaxLetter {
			t.Errorf("%s: %d bytes", told(l), len(s))
		}
	}
	for _, l := range wrong() {
		if s, e := letter.Put(l); e != api.ErrLetter || s != "" {
			t.Errorf("%s: %.60x, %v", told(l), s, e)
		}
	}
}

// The bytes of one message of each kind, by hand, without their checksum.
func TestPutByHand(t *testing.T) {
	const te, de = "\x00\x00\x00\x00\x00\x00\x01\x02", "\x00\x01\x00\x00\x00\x00\x00\x00"
	const three, four = "\x00\x00\x00\x00\x00\x00\x00\x03", "\x00\x00\x00\x00\x00\x00\x00\x04"
	none := strings.Repeat("\x00", 8)
	for _, w := range []struct {
		l    api.Letter
		want string
	}{
		{api.Letter{Kind: hello, A: 3}, "\x01" + te + none + three},
		{api.Letter{Kind: do, De: maxLsn, Op: api.Op{Lsn: 3, Key: "ab", Value: "c"}}, "\x02" + te + de + three + "\x00\x00\x02ab\x00\x01c"},
		{api.Letter{Kind: do, De: maxLsn, Op: api.Op{Lsn: 3, Key: "ab", Del: true}}, "\x02" + te + de + three + "\x01\x00\x02ab\x00\x00"},
		{api.Letter{Kind: get, De: maxLsn, N: 3, Op: api.Op{Key: "ab"}}, "\x03" + te + de + three + "\x00\x02ab"},
		{api.Letter{Kind: scan, De: maxLsn, N: 3, R: api.Range{From: "ab", To: "c", End: true}, A: 4}, "\x04" + te + de + three + "\x00\x02ab\x00\x01c\x01" + four},
		{api.Letter{Kind: scan, De: maxLsn, N: 3, R: api.Range{From: "ab"}, A: 4}, "\x04" + te + de + three + "\x00\x02ab\x00\x00\x00" + four},
		{api.Letter{Kind: marks, De: maxLsn, A: 3, B: 4}, "\x05" + te + de + three + four},
		{api.Letter{Kind: check, De: maxLsn, A: 3}, "\x06" + te + de + three},
		{api.Letter{Kind: welcome, De: maxLsn}, "\x11" + te + de},
		{api.Letter{Kind: done, De: maxLsn, N: 3}, "\x12" + te + de + three},
		{api.Letter{Kind: got, De: maxLsn, N: 3, Is: true, Op: api.Op{Value: "ab"}}, "\x13" + te + de + three + "\x01\x00\x02ab"},
		{api.Letter{Kind: got, De: maxLsn, N: 3}, "\x13" + te + de + three + "\x00\x00\x00"},
		{
			api.Letter{Kind: rowed, De: maxLsn, N: 3, Is: true, Cells: row("a", "bc", "d", "")},
			"\x14" + te + de + three + "\x01\x00\x00\x00\x16\x00\x02\x00\x00\x00\x00\x00\x00\x00\x07\x00\x01a\x00\x02bc\x00\x01d\x00\x00",
		},
		{api.Letter{Kind: rowed, De: maxLsn, N: 3}, "\x14" + te + de + three + "\x00\x00\x00\x00\x02\x00\x00"},
		{api.Letter{Kind: oldest, De: maxLsn, A: 3, B: 4}, "\x15" + te + de + three + four},
	} {
		w.l.Te = 258
		s, e := letter.Put(w.l)
		if e != api.OK || s != sealed([]byte(w.want)) {
			t.Errorf("%s: %x, %v, not %x", told(w.l), s, e, w.want)
		}
	}
}

func TestGet(t *testing.T) {
	for _, l := range right() {
		m, e := letter.Get(plainBytes(l))
		if e != api.OK || !alike(l, m) {
			t.Errorf("%s: %s, %v", told(l), told(m), e)
		}
	}
	r := rand.New(rand.NewSource(192))
	for range 5000 {
		l := random(r)
		m, e := letter.Get(plainBytes(l))
		c, _ := chosen(l)
		if plainRight(c) != (e == api.OK) || e == api.OK && !alike(c, m) {
			t.Fatalf("%s: %s, %v", told(l), told(m), e)
		}
	}
}

// judges checks what Get answers of a string: if it is a message, the string is its bytes.
func judges(t *testing.T, name, s string) bool {
	t.Helper()
	l, e := letter.Get(s)
	if e == api.OK {
		if !plainRight(l) || plainBytes(l) != s {
			t.Errorf("%s: %s of %.80x", name, told(l), s)
		}
		return true
	}
	if e != api.ErrLetter || !alike(l, api.Letter{}) {
		t.Errorf("%s: %s, %v", name, told(l), e)
	}
	return false
}

// refuses checks that a string is no message.
func refuses(t *testing.T, name, s string) {
	t.Helper()
	if judges(t, name, s) {
		t.Errorf("%s: %.80x is a message", name, s)
	}
}

// The bytes of messages that are not valid are refused, as far as they can be written.
func TestGetOfWrong(t *testing.T) {
	for _, l := range wrong() {
		c, holds := chosen(l)
		if len(l.Cells) > 65535 || len(l.Op.Key) > 65535 || len(l.Op.Value) > 65535 || len(l.R.From) > 65535 {
			continue
		}
		if !holds || !plainRight(c) {
			refuses(t, told(l), plainBytes(l))
		}
	}
}

// few are valid messages of each kind that are short enough to be changed at each place.
func few() []api.Letter {
	return []api.Letter{
		{Kind: hello, Te: 1, A: 2}, {Kind: do, Te: 1, De: 2, Op: api.Op{Lsn: 3, Key: "k", Value: "vw"}}, {Kind: do, Te: 1, De: 2, Op: api.Op{Lsn: 3, Key: "kl", Del: true}},
		{Kind: get, Te: 1, De: 2, N: 3, Op: api.Op{Key: "kl"}}, {Kind: scan, Te: 1, De: 2, N: 3, R: api.Range{From: "a", To: "bc", End: true}, A: 64}, {Kind: scan, Te: 1, N: 3, R: api.Range{From: "a"}, A: 1},
		{Kind: marks, Te: 1, De: 2, A: 3, B: 4}, {Kind: check, Te: 1, De: 2, A: 3}, {Kind: welcome, Te: 1, De: 2}, {Kind: done, Te: 1, De: 2, N: 3},
		{Kind: got, Te: 1, De: 2, N: 3, Is: true, Op: api.Op{Value: "vw"}}, {Kind: got, Te: 1, De: 2, N: 3}, {Kind: rowed, Te: 1, De: 2, N: 3, Is: true, Cells: row("a", "b", "c", "")},
		{Kind: rowed, Te: 1, De: 2, N: 3}, {Kind: oldest, Te: 1, De: 2, A: 3, B: 4}, {Kind: marks, Te: maxLsn, De: maxLsn, A: maxLsn, B: maxLsn},
	}
}

// unsealed returns a message's bytes without their checksum.
func unsealed(l api.Letter) []byte {
	s := plainBytes(l)
	return []byte(s[:len(s)-4])
}

func TestGetCutAndProlonged(t *testing.T) {
	for _, l := range few() {
		whole, content := plainBytes(l), unsealed(l)
		for n := range len(whole) {
			refuses(t, "cut off", whole[:n])
			refuses(t, "without its beginning", whole[n+1:])
		}
		for n := range len(content) {
			refuses(t, "cut off and sealed", sealed(content[:n]))
			judges(t, "one byte left out", sealed(slices.Delete(slices.Clone(content), n, n+1)))
		}
		for _, more := range []string{"\x00", "\x01", "x", "\x00\x00\x00\x00", whole} {
			refuses(t, "prolonged", whole+more)
			refuses(t, "prolonged and sealed", sealed(append(slices.Clone(content), more...)))
			refuses(t, "something ahead", more+whole)
		}
		refuses(t, "not sealed", string(content))
		refuses(t, "sealed twice", sealed([]byte(whole)))
	}
	for _, s := range []string{"", "\x00", "\x00\x00\x00\x00", sealed([]byte{0}), sealed([]byte{hello}), long(100000), sealed([]byte(long(100000))), strings.Repeat("\x00", 100000)} {
		refuses(t, "no message", s)
	}
}

// Each byte changed to every other one, and sealed again.
func TestGetChanged(t *testing.T) {
	accepted, refused := 0, 0
	for _, l := range few() {
		content := unsealed(l)
		for i := range content {
			changed := slices.Clone(content)
			for x := range 256 {
				changed[i] = byte(x)
				if judges(t, "changed", sealed(changed)) {
					accepted++
				} else {
					refused++
				}
			}
		}
	}
	if accepted < 10000 || refused < 50000 {
		t.Error(accepted, refused)
	}
}

// A truth is 0 or 1, and no other byte.
func TestGetTruths(t *testing.T) {
	for _, w := range []struct {
		l  api.Letter
		at int
	}{
		{api.Letter{Kind: do, Te: 1, Op: api.Op{Lsn: 1, Key: "k"}}, 25},
		{api.Letter{Kind: scan, Te: 1, N: 1, A: 1, R: api.Range{From: "a", To: "b", End: true}}, 31},
		{api.Letter{Kind: got, Te: 1, N: 1}, 25},
		{api.Letter{Kind: rowed, Te: 1, N: 1}, 25},
	} {
		for x := 2; x < 256; x++ {
			b := unsealed(w.l)
			b[w.at] = byte(x)
			refuses(t, told(w.l), sealed(b))
		}
	}
}

// The cells of a message are all of their string, and have one encoding.
func TestGetRows(t *testing.T) {
	head := unsealed(api.Letter{Kind: rowed, Te: 1, N: 1})
	head = head[:len(head)-6]
	for name, s := range map[string]string{
		"no string":                  "",
		"no length":                  "\x00\x00\x00",
		"an empty string":            "\x00\x00\x00\x00",
		"half a count":               "\x00\x00\x00\x01\x00",
		"more than no cells":         "\x00\x00\x00\x03\x00\x00\x00",
		"less than there is":         "\x00\x00\x00\x02\x00\x00\x00",
		"more than there is":         "\x00\x00\x00\x03\x00\x00",
		"far more than there is":     "\xff\xff\xff\xff\x00\x00",
		"a count without cells":      "\x00\x00\x00\x02\x00\x01",
		"a wrong slot":               "\x00\x00\x00\x0a\x00\x01\x00\x00\x00\x01\x00\x00\x00\x00",
		"cells that do not ascend":   "\x00\x00\x00\x14\x00\x02\x00\x00\x00\x00\x00\x00\x00\x05\x00\x01b\x00\x00\x00\x01a\x00\x00",
		"the string's width too low": "\x00\x02\x00\x00",
	} {
		refuses(t, name, sealed(append(slices.Clone(head), s...)))
	}
	if !judges(t, "one cell", sealed(append(slices.Clone(head), "\x00\x00\x00\x0a\x00\x01\x00\x00\x00\x00\x00\x00\x00\x00"...))) {
		t.Error("an empty cell is refused")
	}
}

// P19.3

func TestSameBytes(t *testing.T) {
	byBytes := map[string]api.Letter{}
	l := append(right(), few()...)
	r := rand.New(rand.NewSource(193))
	for len(l) < 3000 {
		if m := random(r); plainRight(m) {
			l = append(l, m)
		}
	}
	for _, m := range l {
		s, e := letter.Put(m)
		if e != api.OK {
			t.Errorf("%s: %v", told(m), e)
		}
		if other, is := byBytes[s]; is && !alike(m, other) {
			t.Errorf("%s and %s have the same bytes", told(m), told(other))
		}
		byBytes[s] = m
	}
	for _, m := range l {
		m.Cells = append([]api.Cell{}, m.Cells...)
		again, _ := letter.Put(m)
		if other, is := byBytes[again]; !is || !alike(m, other) {
			t.Errorf("%s has other bytes than an equal one", told(m))
		}
	}
}

// inverted returns bytes with the bits of a pattern inverted from a bit on, counted from the lowest bit of the first byte.
func inverted(s string, from int, pattern uint32) string {
	b := []byte(s)
	for i := range 32 {
		if at := from + i; pattern>>i&1 == 1 && at < 8*len(b) {
			b[at/8] ^= 1 << (at % 8)
		}
	}
	return string(b)
}

func TestInvertedBits(t *testing.T) {
	r := rand.New(rand.NewSource(194))
	l := append(few(), api.Letter{Kind: rowed, Te: 1, N: 1, Cells: rise(maxRows, "v")})
	for _, m := range l {
		s := plainBytes(m)
		for from := range 8 * len(s) {
			for _, pattern := range []uint32{1, 3, 0xff, math.MaxUint32, 0x80000001, r.Uint32() | 1, r.Uint32() | 1} {
				refuses(t, fmt.Sprintf("%s with %x inverted from %d on", told(m), pattern, from), inverted(s, from, pattern))
			}
		}
	}
}

// Messages whose bytes differ little are not taken for each other, although each is one.
func TestNeighbours(t *testing.T) {
	for _, l := range few() {
		for i := range unsealed(l) {
			for bit := range 8 {
				b := unsealed(l)
				b[i] ^= 1 << bit
				m, e := letter.Get(sealed(b))
				if e == api.OK && (alike(l, m) || letter.Same(l, m)) {
					t.Errorf("%s with the bit %d of the byte %d inverted is the same", told(l), bit, i)
				}
			}
		}
	}
}

// R1, R4, R5

// R5: what is handed in is neither changed nor shared, its spare capacity included.
func TestNothingIsChanged(t *testing.T) {
	for _, was := range append(few(), wrong()[:300]...) {
		l := was
		behind := api.Cell{Key: "behind", Value: "it"}
		l.Cells = append(slices.Clone(was.Cells), behind, behind)[:len(was.Cells)]
		letter.Check(l)
		letter.Put(l)
		letter.Same(l, l)
		if !alike(l, was) || !slices.Equal(l.Cells[len(l.Cells):len(l.Cells)+2], []api.Cell{behind, behind}) {
			t.Errorf("%s became %s", told(was), told(l))
		}
	}
}

func TestAnswersApart(t *testing.T) {
	for _, l := range few() {
		first, _ := letter.Get(plainBytes(l))
		second, _ := letter.Get(plainBytes(l))
		clear(second.Cells[:cap(second.Cells)])
		third, _ := letter.Get(plainBytes(l))
		if !alike(first, l) || !alike(third, l) {
			t.Errorf("%s: %s and %s", told(l), told(first), told(third))
		}
	}
}

// Whatever strings are given, each call ends; bytes at random are no message.
func TestAnyBytes(t *testing.T) {
	r := rand.New(rand.NewSource(195))
	for range 20000 {
		b := make([]byte, r.Intn(80))
		r.Read(b)
		if len(b) > 0 {
			b[0] = kinds()[r.Intn(len(kinds()))]
		}
		refuses(t, "at random", string(b))
		judges(t, "at random, sealed", sealed(b))
	}
}

// The chapter's examples.
func TestExamples(t *testing.T) {
	s, e := letter.Put(api.Letter{Kind: api.LtDone, Te: 1, De: 2, N: 3})
	if e != api.OK || len(s) != 29 || s[:9] != "\x12\x00\x00\x00\x00\x00\x00\x00\x01" {
		t.Errorf("%x, %v", s, e)
	}
	for _, l := range []api.Letter{{Kind: api.LtDone, Te: 1, De: 2}, {Kind: api.LtHello, Te: 1, De: 2}} {
		if e := letter.Check(l); e != api.ErrLetter {
			t.Errorf("%s: %v", told(l), e)
		}
	}
}
