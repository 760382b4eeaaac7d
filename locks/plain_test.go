package locks_test

import (
	"slices"
	"strconv"
	"strings"

	"lockkeeper/api"
)

// lock reads a lock as the chapter's Examples write it: a transaction, S or X, and two bounds, of which . is the empty one, and - no end.
func lock(text string) api.Lock {
	part := strings.Fields(strings.ReplaceAll(text, ".", " . "))
	tx, err := strconv.ParseUint(part[0], 10, 64)
	if err != nil || len(part) != 4 || part[1] != "S" && part[1] != "X" {
		panic("no lock: " + text)
	}
	r := api.Range{From: strings.Trim(part[2], "."), To: strings.Trim(part[3], ".-"), End: part[3] != "-"}
	return api.Lock{Tx: tx, R: r, X: part[1] == "X"}
}

// locksOf reads locks between commas.
func locksOf(text string) []api.Lock {
	var l []api.Lock
	for one := range strings.SplitSeq(text, ",") {
		if strings.TrimSpace(one) != "" {
			l = append(l, lock(one))
		}
	}
	return l
}

func table(held, waits string) api.Locks {
	return api.Locks{Held: locksOf(held), Waits: locksOf(waits)}
}

// alike reports whether two tables have the same locks in the same order.
func alike(a, b api.Locks) bool {
	same := func(a, b []api.Lock) bool {
		for i := range a {
			if i >= len(b) || a[i].Tx != b[i].Tx || a[i].X != b[i].X || a[i].R.From != b[i].R.From || a[i].R.To != b[i].R.To || a[i].R.End != b[i].R.End {
				return false
			}
		}
		return len(a) == len(b)
	}
	return same(a.Held, b.Held) && same(a.Waits, b.Waits)
}

// What follows is the chapter's Terms, by the keys that are in a range: if two ranges differ in any key, they differ in one of their bounds.

func has(r api.Range, key string) bool { return r.From <= key && (!r.End || key < r.To) }

func bounds(a, b api.Range) []string { return []string{a.From, a.To, b.From, b.To} }

func meet(a, b api.Range) bool {
	return slices.ContainsFunc(bounds(a, b), func(key string) bool { return has(a, key) && has(b, key) })
}

func contains(a, b api.Range) bool {
	return !slices.ContainsFunc(bounds(a, b), func(key string) bool { return has(b, key) && !has(a, key) }) && (b.End || !a.End)
}

func isValid(k api.Lock) bool {
	if k.Tx == 0 || len(k.R.From) > 513 || len(k.R.To) > 513 {
		return false
	}
	if k.R.End {
		return k.R.From < k.R.To
	}
	return k.R.To == ""
}

func conflict(a, b api.Lock) bool { return a.Tx != b.Tx && meet(a.R, b.R) && (a.X || b.X) }

func covers(a, b api.Lock) bool { return a.Tx == b.Tx && contains(a.R, b.R) && (a.X || !b.X) }

func anyConflict(list []api.Lock, k api.Lock) bool {
	return slices.ContainsFunc(list, func(other api.Lock) bool { return conflict(other, k) })
}

func waits(l api.Locks, tx uint64) bool {
	return slices.ContainsFunc(l.Waits, func(k api.Lock) bool { return k.Tx == tx })
}

func plainCheck(l api.Locks) api.Errno {
	for _, k := range slices.Concat(l.Held, l.Waits) {
		if !isValid(k) {
			return api.ErrLocks
		}
	}
	for i, k := range l.Held {
		if anyConflict(l.Held[i+1:], k) {
			return api.ErrLocks
		}
	}
	for i, k := range l.Waits {
		before := l.Waits[:i]
		if waits(api.Locks{Waits: before}, k.Tx) || !anyConflict(l.Held, k) && !anyConflict(before, k) {
			return api.ErrLocks
		}
	}
	if len(l.Held)+len(l.Waits) > 200 {
		return api.ErrLocks
	}
	return api.OK
}

func plainHolds(l api.Locks, k api.Lock) bool {
	return plainCheck(l) == api.OK && isValid(k) && slices.ContainsFunc(l.Held, func(other api.Lock) bool { return covers(other, k) })
}

// result is all that a call returns.
type result struct {
	table api.Locks
	is    bool
	txs   []uint64
	e     api.Errno
}

func (r result) same(other result) bool {
	return alike(r.table, other.table) && r.is == other.is && slices.Equal(r.txs, other.txs) && r.e == other.e
}

func plainAsk(l api.Locks, k api.Lock) result {
	held, waiting := slices.Clone(l.Held), slices.Clone(l.Waits)
	switch {
	case plainCheck(l) != api.OK:
		return result{e: api.ErrLocks}
	case !isValid(k):
		return result{e: api.ErrArg}
	case waits(l, k.Tx):
		return result{e: api.ErrState}
	case plainHolds(l, k):
		return result{table: l, is: true}
	case len(held)+len(waiting) >= 200:
		return result{e: api.ErrFull}
	case anyConflict(held, k) || anyConflict(waiting, k):
		return result{table: api.Locks{Held: held, Waits: append(waiting, k)}}
	}
	return result{table: api.Locks{Held: append(held, k), Waits: waiting}, is: true}
}

// plainLeave is Release, or Withdraw, which leaves what is held.
func plainLeave(l api.Locks, tx uint64, keepsHeld bool) result {
	if plainCheck(l) != api.OK {
		return result{e: api.ErrLocks}
	}
	var r result
	for _, k := range l.Held {
		if k.Tx != tx || keepsHeld {
			r.table.Held = append(r.table.Held, k)
		}
	}
	for _, k := range l.Waits {
		switch {
		case k.Tx == tx:
		case anyConflict(r.table.Held, k), anyConflict(r.table.Waits, k):
			r.table.Waits = append(r.table.Waits, k)
		default:
			r.table.Held = append(r.table.Held, k)
			r.txs = append(r.txs, k.Tx)
		}
	}
	return r
}

func plainBlockers(l api.Locks, tx uint64) []uint64 {
	if plainCheck(l) != api.OK {
		return nil
	}
	txs := map[uint64]bool{}
	for i, k := range l.Waits {
		for _, other := range slices.Concat(l.Held, l.Waits[:i]) {
			if k.Tx == tx && conflict(other, k) {
				txs[other.Tx] = true
			}
		}
	}
	var l2 []uint64
	for tx := range txs {
		l2 = append(l2, tx)
	}
	slices.Sort(l2)
	return l2
}
