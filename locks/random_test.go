package locks_test

import (
	"math/rand"
	"slices"
	"testing"

	"lockkeeper/api"
	"lockkeeper/locks"
)

// fewBounds are so few that the ranges between them meet often.
var fewBounds = []string{"", "a", "a\x00", "b", "c", "d", "\xff"}

func randomLock(r *rand.Rand, txs int) api.Lock {
	i, j := r.Intn(len(fewBounds)), r.Intn(len(fewBounds))
	k := api.Lock{Tx: uint64(r.Intn(txs)) + 1, X: r.Intn(3) == 0}
	if i == j {
		k.R = api.Range{From: fewBounds[i]}
	} else {
		k.R = api.Range{From: fewBounds[min(i, j)], To: fewBounds[max(i, j)], End: true}
	}
	return k
}

// sameCalls checks all calls for a table, with one lock and one transaction, against the Terms.
func sameCalls(t *testing.T, l api.Locks, k api.Lock, tx uint64) {
	t.Helper()
	if got := locks.Check(l); got != plainCheck(l) {
		t.Errorf("Check of %v: %v", l, got)
	}
	if got := asked(l, k); !got.same(plainAsk(l, k)) {
		t.Errorf("Ask of %v for %v: %v, not %v", l, k, got, plainAsk(l, k))
	}
	if got := released(l, tx); !got.same(plainLeave(l, tx, false)) {
		t.Errorf("Release of %v by %d: %v, not %v", l, tx, got, plainLeave(l, tx, false))
	}
	if got := withdrawn(l, tx); !got.same(plainLeave(l, tx, true)) {
		t.Errorf("Withdraw of %v by %d: %v, not %v", l, tx, got, plainLeave(l, tx, true))
	}
	if got := locks.Blockers(l, tx); !slices.Equal(got, plainBlockers(l, tx)) {
		t.Errorf("Blockers of %v for %d: %v, not %v", l, tx, got, plainBlockers(l, tx))
	}
	if got := locks.Holds(l, k); got != plainHolds(l, k) {
		t.Errorf("Holds of %v for %v: %v", l, k, got)
	}
}

// history plays calls on one table, and passes each table that they make.
func history(r *rand.Rand, txs, calls int, see func(l api.Locks)) {
	var l api.Locks
	for range calls {
		tx := uint64(r.Intn(txs)) + 1
		next := result{e: api.ErrNone}
		switch r.Intn(8) {
		case 0:
			next = released(l, tx)
		case 1:
			next = withdrawn(l, tx)
		default:
			next = asked(l, randomLock(r, txs))
		}
		if next.e == api.OK {
			l = next.table
		}
		see(l)
	}
}

// broken returns a table in which something was changed, added or removed, which may make it wrong.
func broken(r *rand.Rand, l api.Locks) api.Locks {
	changed := func(list []api.Lock) []api.Lock {
		list = slices.Clone(list)
		at := r.Intn(len(list) + 1)
		switch {
		case at == len(list) || r.Intn(4) == 0:
			return slices.Insert(list, at, randomLock(r, 7))
		case r.Intn(3) == 0:
			return slices.Delete(list, at, at+1)
		case r.Intn(2) == 0:
			other := r.Intn(len(list))
			list[at], list[other] = list[other], list[at]
		case r.Intn(2) == 0:
			list[at].X = !list[at].X
		default:
			list[at].R.End = !list[at].R.End
		}
		return list
	}
	if r.Intn(2) == 0 {
		return api.Locks{Held: changed(l.Held), Waits: l.Waits}
	}
	return api.Locks{Held: l.Held, Waits: changed(l.Waits)}
}

// P22.1 to P22.4, P22.7: any tables.

func TestAnyTables(t *testing.T) {
	r := rand.New(rand.NewSource(22))
	valid, wrong := 0, 0
	for range 60 {
		history(r, 7, 100, func(l api.Locks) {
			tx := uint64(r.Intn(8))
			sameCalls(t, l, randomLock(r, 7), tx)
			l = broken(r, l)
			sameCalls(t, l, randomLock(r, 7), tx)
			if locks.Check(l) == api.OK {
				valid++
			} else {
				wrong++
			}
		})
	}
	if valid < 500 || wrong < 500 {
		t.Errorf("only %d tables valid, %d wrong", valid, wrong)
	}
}

func TestAnyRanges(t *testing.T) {
	r := rand.New(rand.NewSource(221))
	for range 200000 {
		a, b := randomLock(r, 3), randomLock(r, 3)
		if locks.Conflict(a, b) != conflict(a, b) {
			t.Errorf("Conflict of %v and %v", a, b)
		}
		l := api.Locks{Held: []api.Lock{a}}
		if locks.Holds(l, b) != covers(a, b) {
			t.Errorf("Holds of %v and %v", a, b)
		}
	}
}

// P22.5: what the calls return.

func TestTablesOfCallsAreValid(t *testing.T) {
	r := rand.New(rand.NewSource(225))
	for _, txs := range []int{2, 5, 40, 400} {
		history(r, txs, 600, func(l api.Locks) {
			if locks.Check(l) != api.OK || len(l.Held)+len(l.Waits) > 200 {
				t.Errorf("%v: %v", l, locks.Check(l))
			}
		})
	}
}

// holders returns which transactions hold a lock on a key, and which of them hold one that is X.
func holders(l api.Locks, key string) (all, exclusive map[uint64]bool) {
	all, exclusive = map[uint64]bool{}, map[uint64]bool{}
	for _, k := range l.Held {
		if has(k.R, key) {
			all[k.Tx] = true
			if k.X {
				exclusive[k.Tx] = true
			}
		}
	}
	return all, exclusive
}

func TestNoTwoHoldAKey(t *testing.T) {
	r := rand.New(rand.NewSource(2251))
	for range 20 {
		history(r, 6, 200, func(l api.Locks) {
			for _, key := range fewBounds {
				if all, exclusive := holders(l, key); len(exclusive) > 0 && len(all) > 1 {
					t.Errorf("%v: %q is held by %v, as X by %v", l, key, all, exclusive)
				}
			}
		})
	}
}

func TestWhoWaitsHasABlocker(t *testing.T) {
	r := rand.New(rand.NewSource(2252))
	seen := 0
	for range 20 {
		history(r, 8, 200, func(l api.Locks) {
			for _, k := range l.Waits {
				seen++
				if b := locks.Blockers(l, k.Tx); len(b) == 0 || slices.Contains(b, k.Tx) {
					t.Errorf("%v: %d waits for %v", l, k.Tx, b)
				}
			}
		})
	}
	if seen < 1000 {
		t.Errorf("only %d waited", seen)
	}
}

// TestWhoWaitsIsGranted releases all transactions that have locks before a waiting one, in any order.
func TestWhoWaitsIsGranted(t *testing.T) {
	r := rand.New(rand.NewSource(2253))
	seen := 0
	for range 20 {
		history(r, 8, 100, func(l api.Locks) {
			if len(l.Waits) == 0 {
				return
			}
			seen++
			at := r.Intn(len(l.Waits))
			k := l.Waits[at]
			var before []uint64
			for _, other := range slices.Concat(l.Held, l.Waits[:at]) {
				if other.Tx != k.Tx {
					before = append(before, other.Tx)
				}
			}
			r.Shuffle(len(before), func(i, j int) { before[i], before[j] = before[j], before[i] })
			granted := 0
			for _, tx := range before {
				one := released(l, tx)
				if slices.Contains(one.txs, k.Tx) {
					granted++
				}
				l = one.table
			}
			if granted != 1 || !locks.Holds(l, k) || waits(l, k.Tx) {
				t.Errorf("%v was granted %d times: %v", k, granted, l)
			}
		})
	}
	if seen < 500 {
		t.Errorf("only %d waited", seen)
	}
}

// P22.6: no phantoms.

// TestNoPhantoms asks for keys of a range that one transaction holds in shared mode, one by one, whatever else is held.
func TestNoPhantoms(t *testing.T) {
	r := rand.New(rand.NewSource(226))
	seen := 0
	for range 20 {
		history(r, 6, 100, func(l api.Locks) {
			for _, k := range l.Held {
				for _, key := range fewBounds {
					if k.X || !has(k.R, key) {
						continue
					}
					seen++
					point := api.Range{From: key, To: key + "\x00", End: true}
					if got := asked(l, api.Lock{Tx: 60, R: point, X: true}); got.is || got.e != api.OK {
						t.Errorf("%v: %q is granted", l, key)
					}
					_, exclusive := holders(l, key)
					if delete(exclusive, k.Tx); len(exclusive) > 0 {
						t.Errorf("%v: %q is held", l, key)
					}
				}
			}
		})
	}
	if seen < 1000 {
		t.Errorf("only %d keys", seen)
	}
}

// TestNoPhantomsBehindTheLast holds a range without an end, where a new key would come behind all others.
func TestNoPhantomsBehindTheLast(t *testing.T) {
	l := asked(api.Locks{}, lock("1 S b -")).table
	for _, key := range []string{"b", "b\x00", "c", "\xff\xff\xff", "\xff" + long(510)} {
		k := api.Lock{Tx: 2, R: api.Range{From: key, To: key + "\x00", End: true}, X: true}
		if asked(l, k).is {
			t.Errorf("%q is granted", key)
		}
		granted := released(asked(l, k).table, 1)
		if !slices.Equal(granted.txs, []uint64{2}) || !locks.Holds(granted.table, k) {
			t.Errorf("%q: %v", key, granted)
		}
	}
	ahead := api.Lock{Tx: 2, R: api.Range{From: "a\xff", To: "a\xff\x00", End: true}, X: true}
	if !asked(l, ahead).is {
		t.Error("a key ahead of the range is not granted")
	}
}
