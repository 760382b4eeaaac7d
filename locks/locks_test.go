package locks_test

import (
	"math"
	"slices"
	"strconv"
	"strings"
	"testing"

	"lockkeeper/api"
	"lockkeeper/locks"
)

func asked(l api.Locks, k api.Lock) result {
	table, is, e := locks.Ask(l, k)
	return result{table: table, is: is, e: e}
}

func released(l api.Locks, tx uint64) result {
	table, txs, e := locks.Release(l, tx)
	return result{table: table, txs: txs, e: e}
}

func withdrawn(l api.Locks, tx uint64) result {
	table, txs, e := locks.Withdraw(l, tx)
	return result{table: table, txs: txs, e: e}
}

// wants checks a result, and that it is what the Terms make of the call.
func wants(t *testing.T, name string, got, want, plain result) {
	t.Helper()
	if !want.same(plain) {
		t.Errorf("%s: the test wants %v, the Terms %v", name, want, plain)
	}
	if !got.same(want) {
		t.Errorf("%s: %v, not %v", name, got, want)
	}
}

// long returns a string of so many bytes.
func long(size int) string { return strings.Repeat("k", size) }

// someLocks are valid locks of three transactions, on ranges that are apart, touch, overlap or contain each other.
func someLocks() []api.Lock {
	ranges := []api.Range{
		{}, {From: "b"}, {From: "d"}, {From: long(513)},
		{To: "b", End: true}, {From: "a", To: "b", End: true}, {From: "b", To: "c", End: true}, {From: "a", To: "d", End: true},
		{From: "b", To: "b\x00", End: true}, {From: "b\x00", To: "c", End: true}, {From: long(512), To: long(513), End: true}, {From: "\xff", To: "\xff\xff", End: true},
	}
	var l []api.Lock
	for _, tx := range []uint64{1, 2, math.MaxUint64} {
		for _, r := range ranges {
			l = append(l, api.Lock{Tx: tx, R: r}, api.Lock{Tx: tx, R: r, X: true})
		}
	}
	return l
}

// wrongLocks are not valid: by their transaction, or by their range.
func wrongLocks() []api.Lock {
	return []api.Lock{
		{},
		{X: true},
		{R: api.Range{From: "a", To: "b", End: true}},
		{Tx: 1, R: api.Range{From: "a", To: "b"}},
		{Tx: 1, R: api.Range{From: "b", To: "a", End: true}},
		{Tx: 1, R: api.Range{From: "a", To: "a", End: true}, X: true},
		{Tx: 1, R: api.Range{End: true}},
		{Tx: 1, R: api.Range{From: long(514)}, X: true},
		{Tx: 1, R: api.Range{To: long(514), End: true}},
		{Tx: math.MaxUint64, R: api.Range{From: "a", To: "A", End: true}},
	}
}

// many returns so many locks that do not conflict, each of a transaction of its own: the first one is of tx.
func many(tx uint64, count int) []api.Lock {
	var l []api.Lock
	for i := range count {
		at := strconv.Itoa(10000 + i)
		l = append(l, api.Lock{Tx: tx + uint64(i), R: api.Range{From: at, To: at + "x", End: true}, X: true})
	}
	return l
}

// queued returns a table of count locks that are held, and as many that wait, each for one of them.
func queued(count int) api.Locks {
	l := api.Locks{Held: many(1, count)}
	for _, k := range l.Held {
		k.Tx += uint64(count)
		l.Waits = append(l.Waits, k)
	}
	return l
}

// crowd returns a table with one lock that is held, and count that wait for it.
func crowd(count int) api.Locks {
	l := api.Locks{Held: locksOf("1 X 1 2")}
	for i := range count {
		l.Waits = append(l.Waits, api.Lock{Tx: uint64(i) + 2, R: api.Range{From: "1", To: "11", End: true}})
	}
	return l
}

// validTables are small tables of each form, and some at the limit.
func validTables() map[string]api.Locks {
	return map[string]api.Locks{
		"no lock":                       {},
		"empty lists":                   {Held: []api.Lock{}, Waits: []api.Lock{}},
		"one held":                      table("1 X . -", ""),
		"shared ones that overlap":      table("1 S a c, 2 S b d, 3 S . -", ""),
		"exclusive ones that touch":     table("1 X a b, 2 X b c, 3 X c -", ""),
		"one transaction's that meet":   table("1 X a c, 1 S b d, 1 X b c, 1 S a d", ""),
		"one lock twice":                table("1 X a b, 1 X a b", ""),
		"waits for a held one":          table("1 S a b", "2 X a -"),
		"waits for one that waits":      table("1 S a b", "2 X a c, 3 S b c"),
		"waits for an exclusive one":    table("1 X a b", "2 S a b, 3 S a b, 4 S . -"),
		"waits for more than it has":    table("1 S a b, 2 S a b", "1 X a b"),
		"two that wait for each other":  table("1 S a b, 2 S a b", "1 X a b, 2 X a b"),
		"the greatest transactions":     table("18446744073709551615 X a b", "18446744073709551614 S a b"),
		"bounds at their limit":         {Held: []api.Lock{{Tx: 1, R: api.Range{From: long(512), To: long(513), End: true}}, {Tx: 2, R: api.Range{From: long(513)}, X: true}}},
		"as many as there may be, held": {Held: many(1, 200)},
		"as many that wait":             crowd(199),
		"as many of both":               queued(100),
	}
}

// wrongTables are not valid, each for one cause.
func wrongTables() map[string]api.Locks {
	l := map[string]api.Locks{
		"two held conflict":                 table("1 X a b, 2 S a b", ""),
		"two held conflict, the second X":   table("1 S a b, 2 X . -", ""),
		"two held conflict, far apart":      table("1 S a b, 1 S b c, 2 S a c, 3 X c -, 4 X a aa", ""),
		"one waits for nothing":             table("", "1 X a b"),
		"one waits beside what is held":     table("1 X a b", "2 X b c"),
		"shared waits for shared":           table("1 S a b", "2 S a b"),
		"one waits for itself":              table("1 X a b", "1 X a b"),
		"one waits for one behind it":       table("1 X a b", "2 S b c, 3 X a c"),
		"the second waits for nothing":      table("1 X a b", "2 X a b, 3 X b c"),
		"one transaction waits twice":       table("1 X a b", "2 X a b, 2 S a b"),
		"one waits twice, one between them": table("1 X a b", "2 X a b, 3 X a b, 2 X a b"),
		"one too many, held":                {Held: many(1, 201)},
		"one too many that waits":           crowd(200),
		"one too many of shared":            {Held: slices.Repeat([]api.Lock{lock("1 S a b")}, 201)},
		"very many":                         {Held: slices.Repeat([]api.Lock{lock("1 S a b")}, 300000), Waits: slices.Repeat([]api.Lock{lock("2 X a b")}, 300000)},
	}
	for i, k := range wrongLocks() {
		n := strconv.Itoa(i)
		l["wrong lock "+n+", held"] = api.Locks{Held: []api.Lock{k}}
		l["wrong lock "+n+", held at last"] = api.Locks{Held: append(locksOf("7 S x y, 8 S x y"), k)}
		l["wrong lock "+n+" waits"] = api.Locks{Held: locksOf("9 X . -"), Waits: []api.Lock{k}}
		l["wrong lock "+n+" waits at last"] = api.Locks{Held: locksOf("9 X . -"), Waits: append(locksOf("8 X . -"), k)}
	}
	return l
}

// P22.1: Check, Conflict, Same.

func TestCheckOfValidTables(t *testing.T) {
	for name, l := range validTables() {
		if plainCheck(l) != api.OK || locks.Check(l) != api.OK {
			t.Errorf("%s: %v", name, locks.Check(l))
		}
	}
}

func TestCheckOfWrongTables(t *testing.T) {
	for name, l := range wrongTables() {
		if len(l.Held) <= 300 && plainCheck(l) != api.ErrLocks || locks.Check(l) != api.ErrLocks {
			t.Errorf("%s: %v", name, locks.Check(l))
		}
	}
}

func TestConflict(t *testing.T) {
	for _, a := range someLocks() {
		for _, b := range someLocks() {
			if got := locks.Conflict(a, b); got != conflict(a, b) {
				t.Errorf("Conflict of %v and %v: %v", a, b, got)
			}
		}
	}
}

func TestConflictByHand(t *testing.T) {
	for _, c := range []struct {
		a, b string
		want bool
	}{
		{"1 X a c", "2 X b d", true},
		{"1 X a c", "2 S b d", true},
		{"1 S a c", "2 X b d", true},
		{"1 S a c", "2 S b d", false},
		{"1 X a c", "1 X a c", false},
		{"1 X a b", "2 X b c", false},
		{"1 X a -", "2 X z -", true},
		{"1 X . -", "2 S x y", true},
		{"1 X . b", "2 S b -", false},
		{"1 X . b", "2 S a -", true},
	} {
		a, b := lock(c.a), lock(c.b)
		if locks.Conflict(a, b) != c.want || locks.Conflict(b, a) != c.want {
			t.Errorf("Conflict of %s and %s: %v", c.a, c.b, !c.want)
		}
	}
}

func TestConflictOfWrongLocks(t *testing.T) {
	for _, a := range wrongLocks() {
		for _, b := range slices.Concat(someLocks(), wrongLocks(), locksOf("3 X . -")) {
			if locks.Conflict(a, b) || locks.Conflict(b, a) {
				t.Errorf("Conflict of %v and %v", a, b)
			}
		}
	}
}

func TestSame(t *testing.T) {
	l := []api.Locks{
		{}, table("1 X a b", ""), table("", "1 X a b"), table("1 S a b", ""), table("2 X a b", ""), table("1 X a c", ""), table("1 X . b", ""), table("1 X a -", ""),
		table("1 X a b, 1 X a b", ""), table("1 X a b", "1 X a b"), table("1 X a b, 2 X b c", ""), table("2 X b c, 1 X a b", ""), table("", "1 X a b, 2 X b c"), table("", "2 X b c, 1 X a b"),
		{Held: wrongLocks()}, {Waits: wrongLocks()}, {Held: wrongLocks()[:3]}, {Held: many(1, 300)}, {Held: many(1, 301)},
		{Held: []api.Lock{{Tx: 1, R: api.Range{From: "a", To: "b"}, X: true}}},
	}
	for i, a := range l {
		for j, b := range l {
			b = api.Locks{Held: slices.Clone(b.Held), Waits: slices.Clone(b.Waits)}
			if got := locks.Same(a, b); got != (i == j) || got != alike(a, b) {
				t.Errorf("Same of %v and %v: %v", a, b, got)
			}
		}
	}
	if !locks.Same(api.Locks{Held: []api.Lock{}}, api.Locks{Waits: []api.Lock{}}) {
		t.Error("nil is not as empty")
	}
}

// P22.2: Ask.

func TestAsk(t *testing.T) {
	for _, c := range []struct {
		held, waits, k   string
		heldNow, waitNow string
		is               bool
	}{
		{"", "", "1 X a b", "1 X a b", "", true},
		{"1 S a b", "", "2 S a b", "1 S a b, 2 S a b", "", true},
		{"1 S a b", "", "2 X a b", "1 S a b", "2 X a b", false},
		{"1 X a b", "", "2 S . aa", "1 X a b", "2 S . aa", false},
		{"1 X a b", "", "2 X b c", "1 X a b, 2 X b c", "", true},
		// What waits is in the way of what comes after it.
		{"1 S a b", "2 X a c", "3 S b c", "1 S a b", "2 X a c, 3 S b c", false},
		{"1 S a b", "2 X a c", "3 S c d", "1 S a b, 3 S c d", "2 X a c", true},
		{"1 S a b", "2 X a b, 3 X a b", "4 S a aa", "1 S a b", "2 X a b, 3 X a b, 4 S a aa", false},
		{"1 X a b", "2 S a b", "3 S a b", "1 X a b", "2 S a b, 3 S a b", false},
		// A transaction is not in its own way, but what it has in another mode, or in part, does not cover.
		{"1 S a b", "", "1 X a b", "1 S a b, 1 X a b", "", true},
		{"1 X a b", "", "1 X a c", "1 X a b, 1 X a c", "", true},
		{"1 X a b, 1 X b c", "", "1 X a c", "1 X a b, 1 X b c, 1 X a c", "", true},
		{"1 S a b, 2 S a b", "", "1 X a b", "1 S a b, 2 S a b", "1 X a b", false},
		{"1 S a b, 2 S a b", "1 X a b", "2 X a b", "1 S a b, 2 S a b", "1 X a b, 2 X a b", false},
		// What is covered changes nothing, even if others wait for it.
		{"1 X a c", "", "1 S b c", "1 X a c", "", true},
		{"1 X a c", "", "1 X a c", "1 X a c", "", true},
		{"1 S a -", "2 X a b", "1 S a b", "1 S a -", "2 X a b", true},
		{"1 S b c, 1 S . -", "2 X a b", "1 S . -", "1 S b c, 1 S . -", "2 X a b", true},
		{"1 S . -", "2 X a b", "1 X x y", "1 S . -, 1 X x y", "2 X a b", true},
		{"1 S . -", "2 X a b", "1 X a b", "1 S . -", "2 X a b, 1 X a b", false},
		{"1 S a b", "2 X a c", "1 S b c", "1 S a b", "2 X a c, 1 S b c", false},
		// Another one's lock covers nothing.
		{"1 S a c", "", "2 S a b", "1 S a c, 2 S a b", "", true},
	} {
		l, k := table(c.held, c.waits), lock(c.k)
		wants(t, c.held+"; "+c.waits+"; asks "+c.k, asked(l, k), result{table: table(c.heldNow, c.waitNow), is: c.is}, plainAsk(l, k))
	}
}

func TestAskErrorsInOrder(t *testing.T) {
	wrong := table("1 X a b, 2 X a b", "3 X a b")
	full := api.Locks{Held: many(1, 199), Waits: []api.Lock{{Tx: 500, R: api.Range{From: "1"}}}}
	for _, c := range []struct {
		name string
		l    api.Locks
		k    api.Lock
		e    api.Errno
	}{
		{"a wrong table, a wrong lock", wrong, api.Lock{}, api.ErrLocks},
		{"a wrong table, one that waits", wrong, lock("3 X a b"), api.ErrLocks},
		{"a wrong table, one that is covered", wrong, lock("1 X a b"), api.ErrLocks},
		{"a wrong lock, one that waits", table("1 X a b", "2 X a b"), lock("2 X b a"), api.ErrArg},
		{"a wrong lock, no room", full, lock("0 S a b"), api.ErrArg},
		{"a wrong lock of one that waits, no room", full, lock("500 S b b"), api.ErrArg},
		{"one that waits and has it", table("1 S a b, 2 S a b", "1 X a b"), lock("1 S a b"), api.ErrState},
		{"one that waits for it", table("1 S a b, 2 S a b", "1 X a b"), lock("1 X a b"), api.ErrState},
		{"one that waits, elsewhere", table("1 S a b", "2 X a b"), lock("2 S x y"), api.ErrState},
		{"one that waits at last", table("1 S a b", "2 X a b, 3 X a b, 4 X a b"), lock("4 S x y"), api.ErrState},
		{"one that waits, no room", full, lock("500 S x y"), api.ErrState},
		{"no room to hold", full, lock("501 S a b"), api.ErrFull},
		{"no room to wait", full, lock("501 X 1 2"), api.ErrFull},
	} {
		wants(t, c.name, asked(c.l, c.k), result{e: c.e}, plainAsk(c.l, c.k))
	}
	for i, k := range wrongLocks() {
		wants(t, "wrong lock "+strconv.Itoa(i), asked(table("1 X a b", "2 X a b"), k), result{e: api.ErrArg}, result{e: api.ErrArg})
	}
}

func TestAskAtTheLimit(t *testing.T) {
	for _, c := range []struct {
		name string
		l    api.Locks
	}{{"held", api.Locks{Held: many(1, 199)}}, {"waiting", crowd(198)}} {
		apart, meets := lock("700 X x y"), lock("700 X 1 2")
		wants(t, c.name+", the last to be held", asked(c.l, apart), plainAsk(c.l, apart), plainAsk(c.l, apart))
		wants(t, c.name+", the last to wait", asked(c.l, meets), plainAsk(c.l, meets), plainAsk(c.l, meets))
		for _, k := range []api.Lock{apart, meets} {
			full := plainAsk(c.l, k).table
			if len(full.Held)+len(full.Waits) != 200 {
				t.Errorf("%s: %d and %d locks", c.name, len(full.Held), len(full.Waits))
			}
			wants(t, c.name+", no room to be held", asked(full, lock("701 X v w")), result{e: api.ErrFull}, plainAsk(full, lock("701 X v w")))
			wants(t, c.name+", no room to wait", asked(full, lock("701 X 1 2")), result{e: api.ErrFull}, plainAsk(full, lock("701 X 1 2")))
			covered := full.Held[0]
			wants(t, c.name+", covered in a full table", asked(full, covered), result{table: full, is: true}, plainAsk(full, covered))
		}
	}
}

// P22.3: Release.

func TestRelease(t *testing.T) {
	for _, c := range []struct {
		held, waits string
		tx          uint64
		heldNow     string
		waitNow     string
		txs         []uint64
	}{
		{"", "", 1, "", "", nil},
		{"1 X a b", "", 1, "", "", nil},
		{"1 X a b", "2 S a b", 3, "1 X a b", "2 S a b", nil},
		{"1 X a b", "2 S a b", 0, "1 X a b", "2 S a b", nil},
		{"1 X a b, 2 S x y, 1 S c d", "", 1, "2 S x y", "", nil},
		{"1 X a b", "2 S a b", 1, "2 S a b", "", []uint64{2}},
		{"1 X a b", "2 S a b", 2, "1 X a b", "", nil},
		// All that can be granted are, in their order, behind what is held.
		{"1 X a b, 9 X x y", "4 S a b, 3 S a b, 2 S a b", 1, "9 X x y, 4 S a b, 3 S a b, 2 S a b", "", []uint64{4, 3, 2}},
		{"1 X a b", "2 S a b, 3 X a b, 4 S a b", 1, "2 S a b", "3 X a b, 4 S a b", []uint64{2}},
		{"1 X a b", "2 X a b, 3 S a b, 4 S a b", 1, "2 X a b", "3 S a b, 4 S a b", []uint64{2}},
		{"1 X a c", "2 X a b, 3 X b c, 4 X a c", 1, "2 X a b, 3 X b c", "4 X a c", []uint64{2, 3}},
		// One that still waits is in the way of those behind it; one that waited no longer is.
		{"1 S a b, 2 S a b", "3 X a c, 4 S b c", 1, "2 S a b", "3 X a c, 4 S b c", nil},
		{"1 S a b, 2 S a b", "3 X a c, 4 S b c", 3, "1 S a b, 2 S a b, 4 S b c", "", []uint64{4}},
		{"1 S a b, 2 S a b", "3 X a c, 4 S b c, 5 X a c", 3, "1 S a b, 2 S a b, 4 S b c", "5 X a c", []uint64{4}},
		// What is held and what is waited for go together, and what it held is not in its way.
		{"1 S a b, 2 S a b, 1 X c d", "1 X a b, 2 X a b", 1, "2 S a b, 2 X a b", "", []uint64{2}},
		{"1 S a b, 2 S a b, 3 S c d", "3 X a b, 1 X c d", 3, "1 S a b, 2 S a b, 1 X c d", "", []uint64{1}},
		// One that was not held up by who leaves stays, whatever else is granted.
		{"1 X a b, 2 X c d", "3 X a b, 4 X c d, 5 X a d", 1, "2 X c d, 3 X a b", "4 X c d, 5 X a d", []uint64{3}},
	} {
		l := table(c.held, c.waits)
		name := c.held + "; " + c.waits + "; releases " + strconv.FormatUint(c.tx, 10)
		wants(t, name, released(l, c.tx), result{table: table(c.heldNow, c.waitNow), txs: c.txs}, plainLeave(l, c.tx, false))
	}
}

func TestReleaseOfACrowd(t *testing.T) {
	l := crowd(199)
	r := released(l, 1)
	wants(t, "all are granted", r, plainLeave(l, 1, false), plainLeave(l, 1, false))
	if len(r.table.Held) != 199 || len(r.txs) != 199 || r.txs[0] != 2 || r.txs[198] != 200 {
		t.Errorf("%d held, granted %v", len(r.table.Held), r.txs)
	}
}

// P22.7: Withdraw.

func TestWithdraw(t *testing.T) {
	for _, c := range []struct {
		held, waits string
		tx          uint64
		heldNow     string
		waitNow     string
		txs         []uint64
	}{
		{"", "", 1, "", "", nil},
		{"1 X a b", "", 1, "1 X a b", "", nil},
		{"1 X a b", "2 S a b", 1, "1 X a b", "2 S a b", nil},
		{"1 X a b", "2 S a b", 0, "1 X a b", "2 S a b", nil},
		{"1 X a b", "2 S a b", 2, "1 X a b", "", nil},
		{"1 X a b", "2 S a b, 3 S a b", 2, "1 X a b", "3 S a b", nil},
		{"1 S a b, 2 S a b", "1 X a b", 1, "1 S a b, 2 S a b", "", nil},
		{"1 S a b, 2 S a b", "1 X a b, 2 X a b", 1, "1 S a b, 2 S a b", "2 X a b", nil},
		{"1 S a b", "2 X a b, 3 S a b, 4 S a aa", 2, "1 S a b, 3 S a b, 4 S a aa", "", []uint64{3, 4}},
		{"1 S a b", "2 X a b, 3 S a b, 4 X a aa, 5 S a b", 2, "1 S a b, 3 S a b", "4 X a aa, 5 S a b", []uint64{3}},
		{"1 S a b, 2 S a b", "2 X a b, 3 S a b", 2, "1 S a b, 2 S a b, 3 S a b", "", []uint64{3}},
	} {
		l := table(c.held, c.waits)
		name := c.held + "; " + c.waits + "; withdraws " + strconv.FormatUint(c.tx, 10)
		wants(t, name, withdrawn(l, c.tx), result{table: table(c.heldNow, c.waitNow), txs: c.txs}, plainLeave(l, c.tx, true))
	}
}

// P22.4: Blockers, Holds.

func TestBlockers(t *testing.T) {
	for _, c := range []struct {
		held, waits string
		tx          uint64
		want        []uint64
	}{
		{"", "", 0, nil},
		{"1 X a b", "", 1, nil},
		{"1 X a b", "2 X a b", 1, nil},
		{"1 X a b", "2 X a b", 3, nil},
		{"1 X a b", "2 X a b", 0, nil},
		{"1 X a b", "2 X a b", 2, []uint64{1}},
		{"9 S a b, 5 S a b, 7 S b c", "6 X a b", 6, []uint64{5, 9}},
		{"9 S a b, 9 S a c, 9 S . -", "6 X a b", 6, []uint64{9}},
		{"9 S a b", "6 X a b, 5 X a b, 8 S a b, 7 S a b", 7, []uint64{5, 6}},
		{"9 S a b", "6 X a b, 5 X a b, 8 S a b, 7 S a b", 5, []uint64{6, 9}},
		{"9 S a b, 5 S a b", "9 X a b, 5 X a b", 9, []uint64{5}},
		{"9 S a b, 5 S a b", "9 X a b, 5 X a b", 5, []uint64{9}},
		{"2 S a b", "3 X a c, 1 S b c", 1, []uint64{3}},
		// Twice in the way, as what is held and as what waits.
		{"2 S a b, 1 S a b", "2 X a b, 3 X a b", 3, []uint64{1, 2}},
		{"18446744073709551615 S a b, 9223372036854775808 S a b, 1 S a b", "2 X a b", 2, []uint64{1, 1 << 63, math.MaxUint64}},
	} {
		l := table(c.held, c.waits)
		got, plain := locks.Blockers(l, c.tx), plainBlockers(l, c.tx)
		if !slices.Equal(got, c.want) || !slices.Equal(plain, c.want) {
			t.Errorf("%s; %s; of %d: %v and %v, not %v", c.held, c.waits, c.tx, got, plain, c.want)
		}
	}
}

func TestHolds(t *testing.T) {
	for _, c := range []struct {
		held, k string
		want    bool
	}{
		{"", "1 S a b", false},
		{"1 S a b", "1 S a b", true},
		{"1 X a b", "1 S a b", true},
		{"1 X a b", "1 X a b", true},
		{"1 S a b", "1 X a b", false},
		{"1 X a b", "2 S a b", false},
		{"1 S a c", "1 S a b", true},
		{"1 S a c", "1 S b c", true},
		{"1 S a c", "1 S aa ab", true},
		{"1 S a c", "1 S a d", false},
		{"1 S a c", "1 S . b", false},
		{"1 S a c", "1 S a -", false},
		{"1 S a -", "1 S x -", true},
		{"1 S . -", "1 S . -", true},
		{"1 S a b, 1 S b c", "1 S a c", false},
		{"2 S a c, 1 S x y, 1 S a c", "1 S a b", true},
	} {
		l, k := table(c.held, ""), lock(c.k)
		if locks.Holds(l, k) != c.want || plainHolds(l, k) != c.want {
			t.Errorf("%s; %s: %v", c.held, c.k, !c.want)
		}
	}
	if locks.Holds(table("1 S a b, 2 S a b", "1 X a b"), lock("1 X a b")) {
		t.Error("Holds counts what waits")
	}
}

func TestHoldsOfWrongLocks(t *testing.T) {
	for _, k := range wrongLocks() {
		for _, l := range []api.Locks{{}, table("1 X . -", ""), table("18446744073709551615 X . -", "")} {
			if locks.Holds(l, k) {
				t.Errorf("Holds of %v", k)
			}
		}
	}
}

// What all calls have in common: a table that is not valid.

func TestWrongTables(t *testing.T) {
	for name, l := range wrongTables() {
		none := result{e: api.ErrLocks}
		for _, k := range slices.Concat(l.Held, l.Waits, locksOf("1 S x y"))[:1] {
			wants(t, name+", Ask", asked(l, k), none, none)
			if locks.Holds(l, k) {
				t.Errorf("%s: Holds", name)
			}
		}
		for _, tx := range []uint64{0, 1, 2, 3, 8, 9} {
			wants(t, name+", Release", released(l, tx), none, none)
			wants(t, name+", Withdraw", withdrawn(l, tx), none, none)
			if b := locks.Blockers(l, tx); len(b) != 0 {
				t.Errorf("%s: Blockers %v", name, b)
			}
		}
	}
}

// R5: arguments stay as they are, with what is behind them, and results are apart.

// roomy returns the table with room behind its lists, which is filled with other locks, and both lists with that room.
func roomy(l api.Locks) (api.Locks, [2][]api.Lock) {
	grown := func(list []api.Lock) []api.Lock {
		return append(slices.Clone(list), locksOf("70 X a b, 71 X a b, 72 S x y")...)
	}
	all := [2][]api.Lock{grown(l.Held), grown(l.Waits)}
	return api.Locks{Held: all[0][:len(l.Held)], Waits: all[1][:len(l.Waits)]}, all
}

func overwritten(list []api.Lock) {
	for i := range list[:cap(list)] {
		list[:cap(list)][i] = api.Lock{Tx: 99}
	}
}

func TestArgumentsStayAsTheyAre(t *testing.T) {
	small := table("1 S a c, 2 S b d, 5 X x y", "3 X b c, 4 S b c, 6 S x y")
	for _, l := range []api.Locks{small, {}, table("1 X a b", ""), {Held: many(1, 200)}, crowd(199)} {
		given, all := roomy(l)
		before := [2][]api.Lock{slices.Clone(all[0]), slices.Clone(all[1])}
		for _, call := range []func() result{
			func() result { return asked(given, lock("9 S m n")) },
			func() result { return asked(given, lock("9 X . -")) },
			func() result { return asked(given, lock("1 S a b")) },
			func() result { return released(given, 1) },
			func() result { return released(given, 77) },
			func() result { return withdrawn(given, 3) },
			func() result { return withdrawn(given, 77) },
		} {
			first, second := call(), call()
			overwritten(first.table.Held)
			overwritten(first.table.Waits)
			if !second.same(call()) {
				t.Errorf("%v: results share memory", l)
			}
			held := slices.Clone(second.table.Held)
			overwritten(second.table.Waits)
			if !slices.Equal(held, second.table.Held) {
				t.Errorf("%v: the lists of a result share memory", l)
			}
		}
		locks.Check(given)
		locks.Same(given, given)
		locks.Holds(given, lock("1 S a b"))
		overwrite(locks.Blockers(given, 3))
		if !slices.Equal(all[0], before[0]) || !slices.Equal(all[1], before[1]) {
			t.Errorf("%v: became %v", before, all)
		}
	}
}

func overwrite(list []uint64) {
	for i := range list {
		list[i] = 99
	}
}

// The chapter's Examples.

func TestExamples(t *testing.T) {
	var l api.Locks
	asks := func(text string, want bool) {
		t.Helper()
		next, is, e := locks.Ask(l, lock(text))
		if is != want || e != api.OK {
			t.Errorf("Ask(%s): %v, %v", text, is, e)
		}
		l = next
	}
	releases := func(tx uint64, want ...uint64) {
		t.Helper()
		next, txs, e := locks.Release(l, tx)
		if !slices.Equal(txs, want) || e != api.OK {
			t.Errorf("Release(%d): %v, %v", tx, txs, e)
		}
		l = next
	}
	asks("1 S a c", true)
	asks("2 S b d", true)
	asks("3 X b c", false)
	asks("4 S a b", true)
	if b := locks.Blockers(l, 3); !slices.Equal(b, []uint64{1, 2}) {
		t.Error(b)
	}
	releases(1)
	releases(2, 3)
	l = api.Locks{}
	asks("1 X a c", true)
	asks("1 S b c", true)
	if len(l.Held) != 1 {
		t.Error(l)
	}
}
