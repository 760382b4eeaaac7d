package oplog_test

import (
	"encoding/binary"
	"fmt"
	"math"
	"math/rand"
	"slices"
	"strings"

	"lockkeeper/api"
)

const (
	maxKey   = 512
	maxValue = 2048
	maxLsn   = uint64(1) << 48
	// overhead is what layer 8's Cost adds to the length of a record's Data.
	overhead = 21
)

// The kinds by the numbers that the chapter gives them.
const (
	op     uint8 = 1
	undo   uint8 = 2
	commit uint8 = 3
	end    uint8 = 4
)

func kinds() []uint8 { return []uint8{op, undo, commit, end} }

func long(n int) string { return strings.Repeat("k", n) }

// told is a record, of which not more is told than can be read.
func told(l api.Log) string {
	s := fmt.Sprintf("%+v", l)
	return s[:min(len(s), 300)]
}

// The chapter's Terms once more, in the plainest way.

func plainRight(l api.Log) bool {
	if l.Tx < 1 || l.Tx > maxLsn {
		return false
	}
	if l.Kind == commit || l.Kind == end {
		return l.Prev == 0 && l.Key+l.Old+l.New == "" && !l.Had && !l.Has
	}
	if l.Kind != op && l.Kind != undo || l.Prev > maxLsn {
		return false
	}
	if len(l.Key) < 1 || len(l.Key) > maxKey || len(l.Old) > maxValue || len(l.New) > maxValue {
		return false
	}
	if !l.Has && l.New != "" {
		return false
	}
	if l.Kind == undo {
		return l.Old == "" && !l.Had
	}
	if !l.Had && !l.Has {
		return false
	}
	return l.Had || l.Old == ""
}

func plainNumber(n uint64) string { return string(binary.BigEndian.AppendUint64(nil, n)) }

func plainText(s string) string {
	return string(binary.BigEndian.AppendUint16(nil, uint16(len(s)))) + s
}

func plainTruth(is bool) string {
	if is {
		return "\x01"
	}
	return "\x00"
}

// plainBytes are the bytes that a record has if it is valid.
func plainBytes(l api.Log) string {
	if l.Kind == commit || l.Kind == end {
		return plainNumber(l.Tx)
	}
	return plainNumber(l.Tx) + plainNumber(l.Prev) + plainText(l.Key) + plainTruth(l.Had) + plainTruth(l.Has) + plainText(l.Old) + plainText(l.New)
}

// plainGet reads the bytes of a record, each part at the place where it must be; false if they are those of none.
func plainGet(kind uint8, s string) (api.Log, bool) {
	l := api.Log{Kind: kind}
	whole := true
	take := func(n int) string {
		if n > len(s) {
			whole, n = false, len(s)
		}
		part := s[:n]
		s = s[n:]
		return part
	}
	number := func(width int) uint64 {
		var n uint64
		for _, c := range []byte(take(width)) {
			n = n*256 + uint64(c)
		}
		return n
	}
	truth := func() bool {
		n := number(1)
		whole = whole && n <= 1
		return n == 1
	}
	text := func() string { return take(int(number(2))) }
	switch kind {
	case op, undo:
		l.Tx, l.Prev = number(8), number(8)
		l.Key = text()
		l.Had, l.Has = truth(), truth()
		l.Old, l.New = text(), text()
	case commit, end:
		l.Tx = number(8)
	}
	if !whole || s != "" || !plainRight(l) {
		return api.Log{}, false
	}
	return l, true
}

func plainOp(lsn uint64, l api.Log) (api.Op, bool) {
	if !plainRight(l) || l.Kind == commit || l.Kind == end {
		return api.Op{}, false
	}
	o := api.Op{Lsn: lsn, Key: l.Key, Del: true}
	if l.Has {
		o.Del, o.Value = false, l.New
	}
	return o, true
}

func plainBack(l api.Log) (api.Log, bool) {
	if !plainRight(l) || l.Kind != op {
		return api.Log{}, false
	}
	b := l
	b.Kind = undo
	b.Has, b.New = l.Had, l.Old
	b.Had, b.Old = false, ""
	return b, true
}

func plainCost(l api.Log) int {
	switch {
	case !plainRight(l):
		return 0
	case l.Kind == op:
		// Of the compensation, what the key had is empty, and what it has is what it had.
		return 2*(overhead+8+8+2+len(l.Key)+1+1+2+2) + len(l.Old) + len(l.New) + len(l.Old)
	}
	return overhead + len(plainBytes(l))
}

// What the tests try for each field: valid for some kind, and never.

func numbers() []uint64 {
	return []uint64{0, 1, 2, 255, 256, 1 << 32, maxLsn - 1, maxLsn, maxLsn + 1, 1 << 49, 1 << 63, math.MaxUint64}
}

func words() []string {
	return []string{
		"", "\x00", "k", "k\x00", "\xff\xfe", "\x00\x01", long(255), long(256),
		long(maxKey - 1), long(maxKey), long(maxKey + 1), long(maxValue - 1), long(maxValue), long(maxValue + 1), long(65535), long(65536), long(65537), long(70000),
	}
}

// bases are valid records of all kinds, and of each way of Had and Has.
func bases() []api.Log {
	return []api.Log{
		{Kind: op, Tx: 3, Key: "k", Has: true, New: "v"},
		{Kind: op, Tx: 3, Key: "k", Had: true, Old: "u", Prev: 5},
		{Kind: op, Tx: 3, Key: "k", Had: true, Has: true, Old: "u", New: "v", Prev: 6},
		{Kind: op, Tx: 1, Key: "k", Had: true, Has: true},
		{Kind: undo, Tx: 3, Key: "k", Has: true, New: "u", Prev: 5},
		{Kind: undo, Tx: 3, Key: "k"},
		{Kind: commit, Tx: 3},
		{Kind: end, Tx: 3},
	}
}

// variants are records that differ from one of them in one field, or in a truth and a text; some are valid.
func variants(l api.Log) []api.Log {
	all := []api.Log{l}
	add := func(change func(m *api.Log)) {
		m := l
		change(&m)
		all = append(all, m)
	}
	for _, n := range numbers() {
		add(func(m *api.Log) { m.Tx = n })
		add(func(m *api.Log) { m.Prev = n })
		add(func(m *api.Log) { m.Tx, m.Prev = n, n })
	}
	for _, s := range words() {
		add(func(m *api.Log) { m.Key = s })
		add(func(m *api.Log) { m.Old = s })
		add(func(m *api.Log) { m.New = s })
		add(func(m *api.Log) { m.Had, m.Old = true, s })
		add(func(m *api.Log) { m.Has, m.New = true, s })
		add(func(m *api.Log) { m.Had, m.Old = false, s })
		add(func(m *api.Log) { m.Has, m.New = false, s })
		add(func(m *api.Log) { m.Had, m.Old, m.Has, m.New = true, s, true, s })
	}
	for i := range 4 {
		add(func(m *api.Log) { m.Had, m.Has = i&1 != 0, i&2 != 0 })
		add(func(m *api.Log) { m.Had, m.Has, m.Old, m.New = i&1 != 0, i&2 != 0, "", "" })
	}
	for kind := range 256 {
		add(func(m *api.Log) { m.Kind = uint8(kind) })
	}
	return all
}

// all are many records of each kind, and of kinds that are none; some are valid.
func all() []api.Log {
	l := []api.Log{{}}
	for _, b := range bases() {
		l = append(l, variants(b)...)
	}
	return l
}

func right() []api.Log {
	return slices.DeleteFunc(all(), func(l api.Log) bool { return !plainRight(l) })
}

func wrong() []api.Log { return slices.DeleteFunc(all(), plainRight) }

// random is a record made at random; about a half of them are valid.
func random(r *rand.Rand) api.Log {
	number := func() uint64 {
		if r.Intn(40) == 0 {
			return r.Uint64()
		}
		return uint64(r.Intn(3)) << (r.Intn(6) * 8)
	}
	word := func() string {
		s := make([]byte, r.Intn(4))
		r.Read(s)
		if r.Intn(60) == 0 {
			return words()[r.Intn(len(words()))]
		}
		return string(s)
	}
	l := api.Log{Kind: uint8(1 + r.Intn(4)), Tx: number() + 1}
	if l.Kind > undo && r.Intn(10) > 0 {
		return l
	}
	l.Prev, l.Key, l.Has, l.New = number(), word(), r.Intn(2) == 0, word()
	if l.Kind == op || r.Intn(10) == 0 {
		l.Had, l.Old = r.Intn(2) == 0, word()
	}
	// Mostly what is not there has no value.
	if !l.Had && r.Intn(10) > 0 {
		l.Old = ""
	}
	if !l.Has && r.Intn(10) > 0 {
		l.New = ""
	}
	return l
}
